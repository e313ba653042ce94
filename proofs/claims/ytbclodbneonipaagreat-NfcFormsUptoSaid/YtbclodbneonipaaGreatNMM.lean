import Derived.WalkKit
import Derived.Test.YtbclodbneonipaaGreatSMM
import Derived.Test.YtbclodbneonipaaGreatProg
import Derived.Laws.EntriesVeiled
import Derived.WalkSpells
import Derived.WalkLawsBesides
import Derived.Lib.Hide
import Derived.BigQuiet
import Derived.Deep.QuietTactic
import Derived.Below
import Derived.Outline
/-
  The mathematics of layers 3 and 4 (tables, nfc): program-free but for the type of values.
-/
namespace Go.Proofs.YtbclodbneonipaaGreat.N
structure Sp where
  lo : Int
  hi : Int
  st : Int
  mv : Value
  map : List Int
structure Cl where
  r : Int
  c : Int
structure Pa where
  r : Int
  a : Int
  b : Int
  one : Bool
structure Sg where
  lo : Int
  hi : Int
  k : Int
structure Tab where
  spans : List Sp
  classes : List Cl
  pairs : List Pa
  ways : List Sg
  joins : List Sg
/-! ### What is asked of a rune -/
def clsL (l : List Cl) (r : Int) : Int := match l.find? (fun x => x.r == r) with | some x => x.c | none => 0
def cls (T : Tab) (r : Int) : Int := clsL T.classes r
def prL (l : List Pa) (r : Int) : Option Pa := l.find? (fun x => x.r == r)
def ptL (l : List Pa) (a b : Int) : Option Int := if b = 0 then none else (l.find? (fun x => !x.one && (x.a == a && x.b == b))).map (·.r)
/-! ### Hangul -/
def syl (r : Int) : Bool := 44032 ≤ r && r ≤ 55203
def split (r : Int) : List Int := if (r - 44032) % 28 = 0 then [4352 + (r - 44032) / 588, 4449 + (r - 44032) % 588 / 28] else [4352 + (r - 44032) / 588, 4449 + (r - 44032) % 588 / 28, 4519 + (r - 44032) % 28]
def hang (a b : Int) : Option Int :=
  if 4352 ≤ a ∧ a < 4371 ∧ 4449 ≤ b ∧ b < 4470 then some (44032 + ((a - 4352) * 21 + (b - 4449)) * 28)
  else if syl a = true ∧ (a - 44032) % 28 = 0 ∧ 4519 < b ∧ b < 4547 then some (a + (b - 4519)) else none
def both (T : Tab) (a b : Int) : Option Int := match hang a b with | some x => some x | none => ptL T.pairs a b
/-! ### Taken apart -/
def ap (l : List Pa) : Nat → Int → List Int
  | 0, r => [r]
  | n + 1, r => if syl r then split r else match prL l r with
    | none => [r]
    | some p => ap l n p.a ++ (if p.b = 0 then [] else ap l n p.b)
/-- taking apart comes to an end -/
def Falls (l : List Pa) : Prop := ∀ p ∈ l, 0 ≤ p.a ∧ p.a < p.r ∧ 0 ≤ p.b ∧ p.b < p.r
theorem prL_some {l : List Pa} {r : Int} {p : Pa} (h : prL l r = some p) : p ∈ l ∧ p.r = r := by
  unfold prL at h
  have h1 := List.mem_of_find?_eq_some h
  have h2 := List.find?_some h
  exact ⟨h1, by simpa using h2⟩
theorem ap_more {l : List Pa} (hf : Falls l) : ∀ (n m : Nat) (r : Int), r.toNat < n → r.toNat < m → ap l n r = ap l m r := by
  intro n
  induction n with
  | zero => intro m r h; omega
  | succ n ih =>
    intro m r h1 h2
    obtain ⟨m, rfl⟩ : ∃ k, m = k + 1 := ⟨m - 1, by omega⟩
    unfold ap
    split
    · rfl
    · cases hp : prL l r with
      | none => rfl
      | some p =>
        obtain ⟨hm, hr⟩ := prL_some hp
        obtain ⟨a0, a1, b0, b1⟩ := hf p hm
        simp only
        rw [ih m p.a (by omega) (by omega), ih m p.b (by omega) (by omega)]
def apt (l : List Pa) (r : Int) : List Int := ap l (r.toNat + 1) r
theorem apt_eq {l : List Pa} (hf : Falls l) (r : Int) : apt l r = if syl r then split r else match prL l r with
    | none => [r]
    | some p => apt l p.a ++ (if p.b = 0 then [] else apt l p.b) := by
  unfold apt
  rw [ap]
  split
  · rfl
  · cases hp : prL l r with
    | none => rfl
    | some p =>
      obtain ⟨hm, hr⟩ := prL_some hp
      obtain ⟨a0, a1, b0, b1⟩ := hf p hm
      simp only
      rw [ap_more hf (r.toNat) (p.a.toNat + 1) p.a (by omega) (by omega), ap_more hf (r.toNat) (p.b.toNat + 1) p.b (by omega) (by omega)]
theorem apt_syl {l : List Pa} (hf : Falls l) {r : Int} (h : syl r = true) : apt l r = split r := by rw [apt_eq hf, if_pos h]
theorem apt_none {l : List Pa} (hf : Falls l) {r : Int} (h : syl r = false) (hp : prL l r = none) : apt l r = [r] := by rw [apt_eq hf, if_neg (by rw [h]; simp), hp]
theorem apt_one {l : List Pa} (hf : Falls l) {r : Int} (h : syl r = false) {p : Pa} (hp : prL l r = some p) (hb : p.b = 0) : apt l r = apt l p.a := by rw [apt_eq hf, if_neg (by rw [h]; simp), hp]; simp [hb]
theorem apt_two {l : List Pa} (hf : Falls l) {r : Int} (h : syl r = false) {p : Pa} (hp : prL l r = some p) (hb : p.b ≠ 0) : apt l r = apt l p.a ++ apt l p.b := by rw [apt_eq hf, if_neg (by rw [h]; simp), hp]; simp [hb]
theorem split_len (r : Int) : 2 ≤ (split r).length ∧ (split r).length ≤ 3 := by unfold split; split <;> simp
theorem ap_pos (l : List Pa) : ∀ (n : Nat) (r : Int), 1 ≤ (ap l n r).length := by
  intro n
  induction n with
  | zero => intro r; simp [ap]
  | succ n ih =>
    intro r
    unfold ap
    split
    · have := split_len r; omega
    · split
      · simp
      · rename_i p _
        have := ih p.a
        rw [List.length_append]; omega
theorem apt_pos (l : List Pa) (r : Int) : 1 ≤ (apt l r).length := ap_pos l _ r
def apl (l : List Pa) (x : List Int) : List Int := x.flatMap (apt l)
theorem apl_app (l : List Pa) (x y : List Int) : apl l (x ++ y) = apl l x ++ apl l y := List.flatMap_append
theorem apl_cons (l : List Pa) (r : Int) (x : List Int) : apl l (r :: x) = apt l r ++ apl l x := by unfold apl; rw [List.flatMap_cons]
theorem apl_len (l : List Pa) (x : List Int) : x.length ≤ (apl l x).length := by
  induction x with
  | nil => simp
  | cons r x ih => rw [apl_cons, List.length_append, List.length_cons]; have := apt_pos l r; omega
/-! ### In order -/
def insT (f : Int → Int) (p : List Int) (r : Int) : List Int := if f r = 0 then p ++ [r] else (p.reverse.dropWhile (fun b => decide (f r < f b))).reverse ++ r :: (p.reverse.takeWhile (fun b => decide (f r < f b))).reverse
def ord (f : Int → Int) (l : List Int) : List Int := l.foldl (insT f) []
theorem ord_nil (f : Int → Int) : ord f [] = [] := rfl
theorem ord_snoc (f : Int → Int) (l : List Int) (r : Int) : ord f (l ++ [r]) = insT f (ord f l) r := by unfold ord; rw [List.foldl_append]; rfl
theorem ins_zero {f : Int → Int} {r : Int} (h : f r = 0) (p : List Int) : insT f p r = p ++ [r] := by unfold insT; rw [if_pos h]
/-- where a rune goes -/
theorem ins_at {f : Int → Int} {r : Int} (h : f r ≠ 0) (A B : List Int) (hB : ∀ b ∈ B, f r < f b) (hA : ∀ a, A.getLast? = some a → f a ≤ f r) : insT f (A ++ B) r = A ++ r :: B := by
  unfold insT
  rw [if_neg h, List.reverse_append]
  have h1 : ∀ b ∈ B.reverse, decide (f r < f b) = true := fun b hb => decide_eq_true (hB b (List.mem_reverse.1 hb))
  have h2 : A.reverse.takeWhile (fun b => decide (f r < f b)) = [] ∧ A.reverse.dropWhile (fun b => decide (f r < f b)) = A.reverse := by
    cases hr : A.reverse with
    | nil => exact ⟨rfl, rfl⟩
    | cons a l =>
      have : A.getLast? = some a := by rw [← List.head?_reverse, hr]; rfl
      have := hA a this
      rw [List.takeWhile_cons_of_neg (by simp; omega), List.dropWhile_cons_of_neg (by simp; omega)]
      exact ⟨rfl, rfl⟩
  rw [List.takeWhile_append_of_pos h1, List.dropWhile_append_of_pos h1, h2.1, h2.2]
  simp
theorem ins_parts (f : Int → Int) (p : List Int) (r : Int) : ∃ A B, p = A ++ B ∧ insT f p r = A ++ r :: B ∧ (∀ b ∈ B, f r ≠ 0 ∧ f r < f b) ∧ (f r ≠ 0 → ∀ a, A.getLast? = some a → f a ≤ f r) ∧ (f r = 0 → B = []) := by
  by_cases h : f r = 0
  · exact ⟨p, [], by simp, by rw [ins_zero h], by simp, fun h' => absurd h h', fun _ => rfl⟩
  · refine ⟨(p.reverse.dropWhile (fun b => decide (f r < f b))).reverse, (p.reverse.takeWhile (fun b => decide (f r < f b))).reverse, ?_, by unfold insT; rw [if_neg h], fun b hb => ⟨h, ?_⟩, fun _ a ha => ?_, fun h' => absurd h' h⟩
    · rw [← List.reverse_append, List.takeWhile_append_dropWhile, List.reverse_reverse]
    · have := List.all_eq_true.1 (List.all_takeWhile (l := p.reverse) (p := fun b => decide (f r < f b))) b (List.mem_reverse.1 hb)
      exact of_decide_eq_true this
    · rw [List.getLast?_reverse] at ha
      have := List.head?_dropWhile_not (fun b => decide (f r < f b)) p.reverse
      rw [ha] at this
      simp at this
      omega
theorem ins_len (f : Int → Int) (p : List Int) (r : Int) : (insT f p r).length = p.length + 1 := by
  obtain ⟨A, B, rfl, h, _⟩ := ins_parts f p r
  rw [h]; simp; omega
theorem ord_len (f : Int → Int) : ∀ l : List Int, (ord f l).length = l.length := SM.S_ind rfl fun l x h => by rw [ord_snoc, ins_len, h, List.length_append, List.length_singleton]
theorem ins_perm (f : Int → Int) (p : List Int) (r : Int) : (insT f p r).Perm (p ++ [r]) := by
  obtain ⟨A, B, rfl, h, _⟩ := ins_parts f p r
  rw [h, List.append_assoc]
  exact List.Perm.append_left _ (List.perm_append_singleton r B).symm
theorem ord_perm (f : Int → Int) : ∀ l : List Int, (ord f l).Perm l := SM.S_ind (.refl _) fun l x h => by
  rw [ord_snoc]; exact (ins_perm f _ _).trans (h.append_right _)
theorem ins_filter (f : Int → Int) (c : Int) (p : List Int) (r : Int) : (insT f p r).filter (fun x => f x == c) = p.filter (fun x => f x == c) ++ [r].filter (fun x => f x == c) := by
  obtain ⟨A, B, rfl, h, hB, _⟩ := ins_parts f p r
  rw [h, List.filter_append, List.filter_append, List.filter_cons]
  by_cases hc : (f r == c) = true
  · have : B.filter (fun x => f x == c) = [] := by
      rw [List.filter_eq_nil_iff]
      intro b hb
      have := (hB b hb).2
      simp at hc ⊢
      omega
    rw [if_pos hc, this]
    simp [hc]
  · rw [if_neg hc]
    simp [hc]
theorem ord_filter (f : Int → Int) (c : Int) : ∀ l : List Int, (ord f l).filter (fun x => f x == c) = l.filter (fun x => f x == c) := SM.S_ind rfl fun l x h => by
  rw [ord_snoc, ins_filter, h, List.filter_append]
theorem ord_zero (f : Int → Int) (hf : ∀ r, 0 ≤ f r) : ∀ l : List Int, (ord f l).map (fun x => f x == 0) = l.map (fun x => f x == 0) := SM.S_ind rfl fun l r h => by
  rw [ord_snoc]
  obtain ⟨A, B, e, h', hB, _⟩ := ins_parts f (ord f l) r
  rw [h', List.map_append, List.map_append, ← h, e, List.map_append, List.append_assoc]
  congr 1
  by_cases hn : B = []
  · subst hn; rfl
  · obtain ⟨b, hb⟩ := List.exists_mem_of_ne_nil B hn
    have h0 := (hB b hb).1
    have h1 : (f r == 0) = false := by simpa using h0
    have hnn := hf r
    have h2 : B.map (fun x => f x == 0) = List.replicate B.length false := by
      rw [List.eq_replicate_iff]
      refine ⟨by simp, fun x hx => ?_⟩
      obtain ⟨y, hy, rfl⟩ := List.mem_map.1 hx
      have := (hB y hy).2
      have : f y ≠ 0 := by omega
      simpa using this
    rw [List.map_cons, List.map_cons, List.map_nil, h1, h2, ← List.replicate_succ, List.replicate_succ']
/-- neighbours in order -/
def Adj (f : Int → Int) : List Int → Prop
  | [] => True
  | [_] => True
  | a :: b :: l => (f b = 0 ∨ f a ≤ f b) ∧ Adj f (b :: l)
theorem adj_app {f : Int → Int} : ∀ {A B : List Int}, Adj f (A ++ B) ↔ Adj f A ∧ Adj f B ∧ (∀ a b, A.getLast? = some a → B.head? = some b → f b = 0 ∨ f a ≤ f b)
  | [], B => by simp [Adj]
  | [a], [] => by simp [Adj]
  | [a], b :: B => by simp [Adj, and_comm]
  | a :: a2 :: A, B => by
    have := adj_app (f := f) (A := a2 :: A) (B := B)
    simp only [List.cons_append] at this ⊢
    rw [Adj, Adj, this, List.getLast?_cons_cons]
    simp only [and_assoc]
theorem ord_adj (f : Int → Int) : ∀ l : List Int, Adj f (ord f l) := SM.S_ind (by simp [ord, Adj]) fun l r h => by
  rw [ord_snoc]
  obtain ⟨A, B, e, h', hB, hA, h0⟩ := ins_parts f (ord f l) r
  rw [e] at h
  obtain ⟨h1, h2, _⟩ := adj_app.1 h
  rw [h', show A ++ r :: B = A ++ ([r] ++ B) from rfl]
  refine adj_app.2 ⟨h1, adj_app.2 ⟨trivial, h2, fun a b ha hb => ?_⟩, fun a b ha hb => ?_⟩
  · simp only [List.getLast?_singleton, Option.some.injEq] at ha
    subst ha
    have := (hB b (List.mem_of_mem_head? hb)).2
    omega
  · simp only [List.singleton_append, List.head?_cons, Option.some.injEq] at hb
    subst hb
    by_cases hz : f r = 0
    · exact .inl hz
    · exact .inr (hA hz a ha)
theorem ord_same {f : Int → Int} : ∀ l : List Int, Adj f l → ord f l = l := SM.S_ind (fun _ => rfl) fun l r ih h => by
  obtain ⟨h1, _, h3⟩ := adj_app.1 h
  rw [ord_snoc, ih h1]
  by_cases hz : f r = 0
  · exact ins_zero hz l
  · have := ins_at hz l [] (by simp) (fun a ha => by
      rcases h3 a r ha rfl with h | h
      · exact absurd h hz
      · exact h)
    simpa using this
theorem ord_ord (f : Int → Int) (l : List Int) : ord f (ord f l) = ord f l := ord_same _ (ord_adj f l)
theorem adj_at {f : Int → Int} : ∀ {l : List Int} {i : Nat} {a b : Int}, Adj f l → l[i]? = some a → l[i + 1]? = some b → f b = 0 ∨ f a ≤ f b
  | [], _, _, _, _, h, _ => by simp at h
  | [_], 0, _, _, _, _, h => by simp at h
  | [_], _ + 1, _, _, _, h, _ => by simp at h
  | x :: y :: l, 0, a, b, h, h1, h2 => by
    simp at h1 h2
    subst h1 h2
    exact h.1
  | x :: y :: l, i + 1, a, b, h, h1, h2 => adj_at (l := y :: l) (i := i) h.2 (by simpa using h1) (by simpa using h2)
/-! ### The program's order: by the block, then by the class -/
structure Pl where
  r : Int
  k : Int
  c : Int
instance : Inhabited Pl := ⟨⟨0, 0, 0⟩⟩
def ltP (a b : Pl) : Bool := decide (a.k < b.k) || (decide (a.k = b.k) && decide (a.c < b.c))
theorem ltP_ord : SM.Ord ltP := by
  refine ⟨fun a b c h1 h2 => ?_, fun a b => ?_⟩
  · simp [ltP] at h1 h2 ⊢; omega
  · simp [ltP]; omega
/-- runes with their blocks and classes, the block being k ahead of the first one -/
def annot (f : Int → Int) : Int → List Int → List Pl
  | _, [] => []
  | k, r :: l => let k' := if f r = 0 then k + 1 else k; ⟨r, k', f r⟩ :: annot f k' l
def blk (f : Int → Int) (k : Int) (l : List Int) : Int := l.foldl (fun k r => if f r = 0 then k + 1 else k) k
theorem annot_snoc (f : Int → Int) : ∀ (l : List Int) (k : Int) (r : Int), annot f k (l ++ [r]) = annot f k l ++ [⟨r, if f r = 0 then blk f k l + 1 else blk f k l, f r⟩]
  | [], k, r => by simp [annot, blk]
  | x :: l, k, r => by
    rw [List.cons_append, annot, annot, annot_snoc f l]
    rfl
theorem annot_len (f : Int → Int) : ∀ (l : List Int) (k : Int), (annot f k l).length = l.length
  | [], k => rfl
  | x :: l, k => by rw [annot]; simp [annot_len f l]
theorem blk_snoc (f : Int → Int) (l : List Int) (k r : Int) : blk f k (l ++ [r]) = if f r = 0 then blk f k l + 1 else blk f k l := by unfold blk; rw [List.foldl_append]; rfl
structure Inv (f : Int → Int) (l : List Int) (P : List Pl) : Prop where
  runes : (SM.S ltP P).map (·.r) = ord f l
  cl : ∀ p ∈ SM.S ltP P, p.c = f p.r ∧ 0 ≤ p.k ∧ p.k ≤ blk f 0 l
  st : 0 < blk f 0 l → ∃ p ∈ SM.S ltP P, p.k = blk f 0 l ∧ p.c = 0
  nn : 0 ≤ blk f 0 l
theorem S_annot (f : Int → Int) (hf : ∀ r, 0 ≤ f r) : ∀ l : List Int, Inv f l (annot f 0 l) := SM.S_ind ⟨rfl, by simp [annot, SM.S_nil], by simp [blk], by simp [blk]⟩ fun l r ih => by
  rw [annot_snoc]
  have hfr := hf r
  obtain ⟨i1, i2, i3, i4⟩ := ih
  generalize hk : (if f r = 0 then blk f 0 l + 1 else blk f 0 l) = k
  have hb : blk f 0 (l ++ [r]) = k := by rw [blk_snoc, hk]
  obtain ⟨A, B, e, hA, hB⟩ := SM.srt_split ltP_ord (SM.S_srt ltP_ord (annot f 0 l)) ⟨r, k, f r⟩
  have hS : SM.S ltP (annot f 0 l ++ [⟨r, k, f r⟩]) = A ++ ⟨r, k, f r⟩ :: B := by rw [SM.S_snoc, e]; exact SM.mrg_one hA hB
  have hsrt := SM.S_srt ltP_ord (annot f 0 l)
  rw [e] at i1 i2 i3 hsrt
  have hmem : ∀ p, p ∈ A ++ (⟨r, k, f r⟩ : Pl) :: B → p ∈ A ++ B ∨ p = ⟨r, k, f r⟩ := fun p hp => by
    simp only [List.mem_append, List.mem_cons] at hp ⊢
    rcases hp with h | h | h
    · exact .inl (.inl h)
    · exact .inr h
    · exact .inl (.inr h)
  refine ⟨?_, ?_, ?_, ?_⟩
  · rw [hS, ord_snoc, ← i1, List.map_append, List.map_cons, List.map_append]
    by_cases hz : f r = 0
    · rw [if_pos hz] at hk
      have : B = [] := by
        cases B with
        | nil => rfl
        | cons b B =>
          have h1 := hB b (by simp)
          have h2 := (i2 b (by simp)).2.2
          simp [ltP] at h1
          omega
      subst this
      rw [ins_zero hz]; simp
    · rw [if_neg hz] at hk
      refine (ins_at hz _ _ ?_ ?_).symm
      · intro b hb'
        obtain ⟨p, hp, rfl⟩ := List.mem_map.1 hb'
        have h1 := hB p hp
        obtain ⟨h2, _, h3⟩ := i2 p (List.mem_append.2 (.inr hp))
        simp [ltP] at h1
        omega
      · intro a ha
        rw [List.getLast?_map] at ha
        obtain ⟨p, hp, rfl⟩ := Option.map_eq_some_iff.1 ha
        have hpA : p ∈ A := List.mem_of_getLast? hp
        have h1 := hA p hpA
        obtain ⟨h2, h20, h3⟩ := i2 p (List.mem_append.2 (.inl hpA))
        simp [ltP] at h1
        by_cases hpk : p.k = k
        · have := h1.2 hpk.symm
          omega
        · have hlt : p.k < k := by omega
          obtain ⟨s, hs, hs1, hs2⟩ := i3 (by omega)
          rcases List.mem_append.1 hs with hs | hs
          · have hpair := (List.pairwise_append.1 hsrt).1
            have hdl : A = A.dropLast ++ [p] := by
              have hne : A ≠ [] := by intro e; subst e; simp at hp
              have := List.dropLast_concat_getLast hne
              rw [List.getLast?_eq_some_getLast hne] at hp
              simp only [Option.some.injEq] at hp
              rw [hp] at this; exact this.symm
            rw [hdl] at hs hpair
            rcases List.mem_append.1 hs with hs | hs
            · have := (List.pairwise_append.1 hpair).2.2 s hs p (by simp)
              simp [ltP] at this
              omega
            · simp at hs; subst hs; omega
          · have := hB s hs
            simp [ltP] at this
            omega
  · intro p hp
    rw [hS] at hp
    rw [hb]
    rcases hmem p hp with h | rfl
    · obtain ⟨h1, h2, h3⟩ := i2 p h
      refine ⟨h1, h2, ?_⟩
      split at hk <;> omega
    · refine ⟨rfl, ?_, Int.le_refl _⟩
      show 0 ≤ k
      split at hk <;> omega
  · intro hpos
    rw [hb] at hpos
    rw [hS, hb]
    by_cases hz : f r = 0
    · exact ⟨⟨r, k, f r⟩, by simp, rfl, hz⟩
    · rw [if_neg hz] at hk
      obtain ⟨s, hs, hs1, hs2⟩ := i3 (by omega)
      refine ⟨s, ?_, by omega, hs2⟩
      simp only [List.mem_append, List.mem_cons] at hs ⊢
      rcases hs with h | h
      · exact .inl h
      · exact .inr (.inr h)
  · rw [hb]; split at hk <;> omega
/-- the program's stable sort puts runes in the document's order -/
theorem sort_is_ord (f : Int → Int) (hf : ∀ r, 0 ≤ f r) (l : List Int) : (SM.S ltP (annot f 0 l)).map (·.r) = ord f l := (S_annot f hf l).runes
end Go.Proofs.YtbclodbneonipaaGreat.N
namespace Go.Proofs.YtbclodbneonipaaGreat
open Go.RowKit N
theorem ret_bool {a b : Bool} (h : a = b) : Ending.returned (.bool a) = Ending.returned (.bool b) := by rw [h]
theorem ret_int {k : IntKind} {a b : Int} (h : a = b) : Ending.returned (.int k a) = .returned (.int k b) := by rw [h]
theorem bel2 {a w1 w2 : World} (h : Below a.heap.size a w1) (k : Below w1.heap.size w1 w2) : Below a.heap.size a w2 := h.trans (k.mono h.size)
/-- the slice v reads in w as the list l of structs of k cells -/
def Lst {α : Type} (w : World) (k : Nat) (enc : α → List Value) (v : Value) (l : List α) : Prop :=
  ∃ (p : Option Addr) (cap : Nat), v = .slice p l.length cap ∧ (p = none → cap = 0) ∧ ∀ i x, l[i]? = some x → ∃ g o, p = some ⟨g, o, none⟩ ∧ g < w.heap.size ∧ ∀ j u, (enc x)[j]? = some u → w.cell? ⟨g, o + i * k + j, none⟩ = some u
theorem Lst.below {α : Type} {w w' : World} {k : Nat} {enc : α → List Value} {v : Value} {l : List α} (h : Lst w k enc v l) (hb : Below w.heap.size w w') : Lst w' k enc v l := by
  obtain ⟨p, cap, hv, hn, hc⟩ := h
  refine ⟨p, cap, hv, hn, fun i x hi => ?_⟩
  obtain ⟨g, o, hp, hg, hx⟩ := hc i x hi
  exact ⟨g, o, hp, Nat.lt_of_lt_of_le hg hb.size, fun j u hj => (hb.cell (p := ⟨g, o + i * k + j, none⟩) hg).trans (hx j u hj)⟩
def encSp (x : Sp) : List Value := [.int .i32 x.lo, .int .i32 x.hi, .int .u8 x.st, x.mv]
def encCl (x : Cl) : List Value := [.int .i32 x.r, .int .u8 x.c]
def encPa (x : Pa) : List Value := [.int .i32 x.r, .int .i32 x.a, .int .i32 x.b, .bool x.one]
def encSg (x : Sg) : List Value := [.int .i32 x.lo, .int .i32 x.hi, .int .u8 x.k]
theorem below_dn {B : Nat} {a w : World} (h : Below B a w) (n : Nat) : Below B a (w.drewN n) := ⟨h.os, h.tape, h.output, h.size, h.block⟩
theorem bnew (w : World) (o : Obj) : Below w.heap.size w (w.alloc o) := (Below.refl _ w).alloc (Nat.le_refl _) o
/-- block g of w is the object o -/
def Has (w : World) (g : Nat) (o : Obj) : Prop := w.heap[g]? = some o
theorem Has.lt {w : World} {g : Nat} {o : Obj} (h : Has w g o) : g < w.heap.size := (Array.getElem?_eq_some_iff.1 h).1
theorem Has.new (w : World) (o : Obj) : Has (w.alloc o) w.heap.size o := heap_alloc_new w o
theorem Has.alloc {w : World} {g : Nat} {o : Obj} (h : Has w g o) (x : Obj) : Has (w.alloc x) g o := (Below.heap_alloc w x g h.lt).trans h
theorem Has.below {w w' : World} {g B : Nat} {o : Obj} (h : Has w g o) (hb : Below B w w') (hg : g < B) : Has w' g o := (hb.block g hg).trans h
theorem Has.to {w w' : World} {g : Nat} {o : Obj} (h : Has w g o) (hb : Below w.heap.size w w') : Has w' g o := h.below hb h.lt
theorem Has.cell {w : World} {g : Nat} {cs : Array Value} {t : TypeId} (h : Has w g (.cells cs t)) (i : Nat) {v : Value} (hv : cs[i]? = some v) : w.cell? ⟨g, i, none⟩ = some v := by
  rw [cell_of_row w g i cs t (0, 0) h]; exact hv
theorem Has.free {w : World} {g : Nat} {cs : Array Value} {t : TypeId} (h : Has w g (.cells cs t)) (i : Nat) : w.frozen? ⟨g, i, none⟩ = false := by
  unfold Has at h
  simp [World.frozen?, h]
theorem Has.set {w : World} {g : Nat} {cs : Array Value} {t : TypeId} (h : Has w g (.cells cs t)) (i : Nat) (u : Value) : Has (w.setCell ⟨g, i, none⟩ u) g (.cells (cs.setIfInBounds i u) t) := by
  unfold Has at h ⊢
  simp [World.setCell, Array.getElem?_modify, h]
theorem Has.far {w : World} {g : Nat} {o : Obj} (h : Has w g o) {p : Addr} (hp : g ≠ p.block) (u : Value) : Has (w.setCell p u) g o := (Below.heap_setCell w p u g hp).trans h
theorem take_snoc {α : Type} (l : List α) (k : Nat) (h : k < l.length) : l.take (k + 1) = l.take k ++ [l[k]] := by
  rw [List.take_succ_eq_append_getElem h]
theorem find_none {α : Type} {l : List α} {k : Nat} {f : α → Bool} (h : k < l.length) (h0 : (l.take k).find? f = none) (h1 : f l[k] = false) : (l.take (k + 1)).find? f = none := by
  rw [take_snoc l k h, List.find?_append, h0]
  simp [h1]
theorem find_here {α : Type} {l : List α} {k : Nat} {f : α → Bool} (h : k < l.length) (h0 : (l.take k).find? f = none) (h1 : f l[k] = true) : l.find? f = some l[k] := by
  have e : l = l.take k ++ (l[k] :: l.drop (k + 1)) := by simp
  have e2 : l.find? f = (l.take k ++ (l[k] :: l.drop (k + 1))).find? f := congrArg (List.find? f) e
  rw [e2, List.find?_append, h0, List.find?_cons_of_pos h1]
  rfl
/-- a table, as a value: where its five lists lie -/
structure TQ where
  T : Tab
  p0 : Option Addr
  p1 : Option Addr
  p2 : Option Addr
  p3 : Option Addr
  p4 : Option Addr
  c0 : Nat
  c1 : Nat
  c2 : Nat
  c3 : Nat
  c4 : Nat
abbrev TQ.v0 (q : TQ) : Value := .slice q.p0 q.T.spans.length q.c0
abbrev TQ.v1 (q : TQ) : Value := .slice q.p1 q.T.classes.length q.c1
abbrev TQ.v2 (q : TQ) : Value := .slice q.p2 q.T.pairs.length q.c2
abbrev TQ.v3 (q : TQ) : Value := .slice q.p3 q.T.ways.length q.c3
abbrev TQ.v4 (q : TQ) : Value := .slice q.p4 q.T.joins.length q.c4
abbrev TQ.cs (q : TQ) : Array Value := #[.slice q.p0 q.T.spans.length q.c0, .slice q.p1 q.T.classes.length q.c1, .slice q.p2 q.T.pairs.length q.c2, .slice q.p3 q.T.ways.length q.c3, .slice q.p4 q.T.joins.length q.c4]
abbrev TQ.v (q : TQ) : Value := .agg #[.slice q.p0 q.T.spans.length q.c0, .slice q.p1 q.T.classes.length q.c1, .slice q.p2 q.T.pairs.length q.c2, .slice q.p3 q.T.ways.length q.c3, .slice q.p4 q.T.joins.length q.c4]
end Go.Proofs.YtbclodbneonipaaGreat

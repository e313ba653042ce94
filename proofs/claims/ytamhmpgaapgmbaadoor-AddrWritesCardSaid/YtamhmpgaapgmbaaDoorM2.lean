import Derived.Test.YtamhmpgaapgmbaaDoorA23
namespace Go.Proofs.YtamhmpgaapgmbaaDoor
theorem dec_ok : ∀ u, u < 256 → numO (Lib.decDigits u) = some u ∧ (Lib.decDigits u).all (fun b => decide (48 ≤ b.toNat) && decide (b.toNat ≤ 57)) = true ∧ (Lib.decDigits u).isEmpty = false := by decide +kernel
theorem dec_num {u : Nat} (h : u < 256) : numO (Lib.decDigits u) = some u := (dec_ok u h).1
theorem dec_dig {u : Nat} (h : u < 256) : ∀ b ∈ Lib.decDigits u, 48 ≤ b.toNat ∧ b.toNat ≤ 57 := by
  intro b hb
  have := (dec_ok u h).2.1
  rw [List.all_eq_true] at this
  simpa using this b hb
theorem dec_ne {u : Nat} (h : u < 256) : Lib.decDigits u ≠ [] := by
  have := (dec_ok u h).2.2
  intro e; rw [e] at this; cases this
theorem joinC_cons (c : UInt8) (p : List UInt8) (r : List (List UInt8)) (h : r ≠ []) : joinC c (p :: r) = p ++ c :: joinC c r := by
  cases r with
  | nil => exact absurd rfl h
  | cons q r => rfl
theorem parts_join (c : UInt8) (ps : List (List UInt8)) (hne : ps ≠ []) (hc : ∀ p ∈ ps, c ∉ p) : partsAt c (joinC c ps) = ps := by
  induction ps with
  | nil => exact absurd rfl hne
  | cons p r ih =>
    cases r with
    | nil => exact partsAt_miss c p (hc p (by simp))
    | cons q r' =>
      rw [joinC_cons c p _ (by simp), partsAt_hit c p _ (hc p (by simp)), ih (by simp) (fun x hx => hc x (by simp at hx ⊢; exact Or.inr hx))]
theorem partsAt_snoc (c b : UInt8) (h : ¬ b = c) (l : List UInt8) : partsAt c (l ++ [b]) = (partsAt c l).dropLast ++ [lastP c l ++ [b]] := by
  induction l with
  | nil => rw [List.nil_append, partsAt_cons_ne _ h]; rfl
  | cons a r ih =>
    have hne := partsAt_ne c r
    by_cases ha : a = c
    · subst ha
      rw [List.cons_append, partsAt, if_pos rfl, ih]
      unfold lastP
      rw [partsAt, if_pos rfl]
      cases hq : partsAt a r with
      | nil => exact absurd hq hne
      | cons x y => simp
    · rw [List.cons_append, partsAt_cons_ne _ ha, ih]
      unfold lastP
      rw [partsAt_cons_ne _ ha]
      cases hq : partsAt c r with
      | nil => exact absurd hq hne
      | cons x y =>
        cases y with
        | nil => simp
        | cons z w => simp
theorem lastP_snoc (c b : UInt8) (h : ¬ b = c) (l : List UInt8) : lastP c (l ++ [b]) = lastP c l ++ [b] := by
  conv => lhs; unfold lastP
  rw [partsAt_snoc c b h]; simp
theorem lastP_mem (c : UInt8) (l : List UInt8) : lastP c l ∈ partsAt c l := by
  unfold lastP
  have hne := partsAt_ne c l
  rw [List.getLastD_eq_getLast?, List.getLast?_eq_some_getLast hne]
  exact List.getLast_mem hne
theorem noDot_dot (l : List UInt8) : noDot (l ++ [46]) = l := by unfold noDot; simp
theorem noDot_id (l : List UInt8) (b : UInt8) (h : ¬ b = 46) : noDot (l ++ [b]) = l ++ [b] := by unfold noDot; rw [if_neg (by simpa using h)]
theorem noDot_nil : noDot [] = [] := rfl
def bs4 (n : Nat) : List (List UInt8) := (bytes4 n).map Lib.decDigits
theorem tv4_eq (n : Nat) : tv4 n = joinC 46 (bs4 n) := rfl
theorem bs4_dig {n : Nat} (hn : n < 4294967296) : ∀ p ∈ bs4 n, p ≠ [] ∧ ∀ b ∈ p, 48 ≤ b.toNat ∧ b.toNat ≤ 57 := by
  intro p hp
  simp only [bs4, bytes4, List.map_cons, List.map_nil, List.mem_cons, List.mem_nil_iff, or_false] at hp
  rcases hp with rfl | rfl | rfl | rfl
  · exact ⟨dec_ne (by omega), dec_dig (by omega)⟩
  · exact ⟨dec_ne (by omega), dec_dig (by omega)⟩
  · exact ⟨dec_ne (by omega), dec_dig (by omega)⟩
  · exact ⟨dec_ne (by omega), dec_dig (by omega)⟩
theorem dig_not {b : UInt8} {n : Nat} (h : 48 ≤ b.toNat ∧ b.toNat ≤ 57) (hn : n < 256) (hx : n < 48 ∨ 57 < n) : ¬ b = UInt8.ofNat n := by
  intro e
  rw [e, UInt8.toNat_ofNat', Nat.mod_eq_of_lt (by omega)] at h
  omega
theorem tv4_parts {n : Nat} (hn : n < 4294967296) : partsAt 46 (tv4 n) = bs4 n := by
  rw [tv4_eq]
  exact parts_join 46 _ (by simp [bs4, bytes4]) (fun p hp h => dig_not ((bs4_dig hn p hp).2 46 h) (n := 46) (by omega) (by omega) rfl)
theorem snoc_of_ne {l : List UInt8} (h : l ≠ []) : ∃ r b, l = r ++ [b] ∧ b ∈ l := ⟨l.dropLast, l.getLast h, (List.dropLast_concat_getLast h).symm, List.getLast_mem h⟩
theorem tv4_snoc {n : Nat} (hn : n < 4294967296) : ∃ r b, tv4 n = r ++ [b] ∧ (48 ≤ b.toNat ∧ b.toNat ≤ 57) := by
  obtain ⟨r, b, e, hb⟩ := snoc_of_ne (dec_ne (u := n % 256) (by omega))
  refine ⟨Lib.decDigits (n / 16777216) ++ 46 :: (Lib.decDigits (n / 65536 % 256) ++ 46 :: (Lib.decDigits (n / 256 % 256) ++ 46 :: r)), b, ?_, dec_dig (by omega) b hb⟩
  show Lib.decDigits (n / 16777216) ++ 46 :: (Lib.decDigits (n / 65536 % 256) ++ 46 :: (Lib.decDigits (n / 256 % 256) ++ 46 :: Lib.decDigits (n % 256))) = _
  rw [e]; simp
theorem tv4_noDot {n : Nat} (hn : n < 4294967296) : noDot (tv4 n) = tv4 n := by
  obtain ⟨r, b, e, hb⟩ := tv4_snoc hn
  rw [e]
  exact noDot_id r b (dig_not hb (n := 46) (by omega) (by omega))
theorem v4P_bs4 {n : Nat} (hn : n < 4294967296) : v4P (bs4 n) = some n := by
  unfold v4P
  rw [if_pos (by simp [bs4, bytes4])]
  simp only [bs4, bytes4, List.map_cons, List.map_nil, sum4, dec_num (show n / 16777216 < 256 by omega), dec_num (show n / 65536 % 256 < 256 by omega), dec_num (show n / 256 % 256 < 256 by omega), dec_num (show n % 256 < 256 by omega), Option.bind_some]
  rw [if_pos (by omega), if_pos (by omega), if_pos (by omega), if_pos (by simp only [pw]; omega)]
  simp only [Option.map_some, pw]
  congr 1
  omega
theorem v4_back {n : Nat} (hn : n < 4294967296) : v4O (tv4 n) = some n := by
  unfold v4O
  rw [tv4_noDot hn, tv4_parts hn, v4P_bs4 hn]
theorem v4_back_dot {n : Nat} (hn : n < 4294967296) : v4O (tv4 n ++ [46]) = some n := by
  unfold v4O
  rw [noDot_dot, tv4_parts hn, v4P_bs4 hn]
theorem sum4_last : ∀ (ps : List (List UInt8)) (k n : Nat), sum4 k ps = some n → (numO (ps.getLastD [])).isSome = true
  | [], k, n, h => by simp [sum4] at h
  | [p], k, n, h => by
    rw [sum4] at h
    rcases hq : numO p with _ | m
    · rw [hq] at h; cases h
    · simp [hq]
  | p :: q :: r, k, n, h => by
    rw [sum4] at h
    rcases hq : numO p with _ | m
    · rw [hq] at h; cases h
    · rw [hq] at h
      simp only [Option.bind_some] at h
      split at h
      · simp only [Option.map_eq_some_iff] at h
        obtain ⟨x, hx, _⟩ := h
        have := sum4_last (q :: r) (k + 1) x hx
        simpa using this
      · cases h
theorem ends_of_v4 {l : List UInt8} {n : Nat} (h : v4O l = some n) : endsB l = true := by
  unfold v4O v4P at h
  split at h
  · unfold endsB
    have := sum4_last _ _ _ h
    unfold lastP
    rw [this]; rfl
  · cases h
theorem tv4_len {n : Nat} (hn : n < 4294967296) : (tv4 n).length ≤ 15 := by
  have h0 := dec_len (n / 16777216) (by omega)
  have h1 := dec_len (n / 65536 % 256) (by omega)
  have h2 := dec_len (n / 256 % 256) (by omega)
  have h3 := dec_len (n % 256) (by omega)
  show (Lib.decDigits (n / 16777216) ++ 46 :: (Lib.decDigits (n / 65536 % 256) ++ 46 :: (Lib.decDigits (n / 256 % 256) ++ 46 :: Lib.decDigits (n % 256)))).length ≤ 15
  simp only [List.length_append, List.length_cons]
  omega
theorem tv4_has_dot (n : Nat) : (46 : UInt8) ∈ tv4 n := by
  show (46 : UInt8) ∈ Lib.decDigits (n / 16777216) ++ 46 :: (Lib.decDigits (n / 65536 % 256) ++ 46 :: (Lib.decDigits (n / 256 % 256) ++ 46 :: Lib.decDigits (n % 256)))
  simp
theorem tv4_colon {n : Nat} (hn : n < 4294967296) : (58 : UInt8) ∉ tv4 n := by
  have hd : ∀ u, u < 256 → (58 : UInt8) ∉ Lib.decDigits u := fun u hu h => by have := dec_dig hu 58 h; simp at this
  show (58 : UInt8) ∉ Lib.decDigits (n / 16777216) ++ 46 :: (Lib.decDigits (n / 65536 % 256) ++ 46 :: (Lib.decDigits (n / 256 % 256) ++ 46 :: Lib.decDigits (n % 256)))
  simp only [List.mem_append, List.mem_cons, not_or]
  exact ⟨hd _ (by omega), by decide, hd _ (by omega), by decide, hd _ (by omega), by decide, hd _ (by omega)⟩
end Go.Proofs.YtamhmpgaapgmbaaDoor

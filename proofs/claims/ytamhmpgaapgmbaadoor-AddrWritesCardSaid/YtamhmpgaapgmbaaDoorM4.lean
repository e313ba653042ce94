import Derived.Test.YtamhmpgaapgmbaaDoorM3
namespace Go.Proofs.YtamhmpgaapgmbaaDoor
theorem v4_dot (r : List UInt8) (b : UInt8) (h : ¬ b = 46) : v4O ((r ++ [b]) ++ [46]) = v4O (r ++ [b]) := by
  unfold v4O
  rw [noDot_dot, noDot_id r b h]
theorem ends_dot (r : List UInt8) (b : UInt8) (h : ¬ b = 46) : endsB ((r ++ [b]) ++ [46]) = endsB (r ++ [b]) := by
  unfold endsB
  rw [noDot_dot, noDot_id r b h]
theorem hexP_dot {p : List UInt8} (h : (46 : UInt8) ∈ p) : hexP p = none := by
  unfold hexP
  split
  · unfold partO
    rw [if_neg]
    unfold madeL
    rw [Bool.and_eq_true, List.all_eq_true]
    intro hx
    have := hx.1 46 h
    exact absurd this (by decide)
  · rfl
theorem pcs_dot (l : List UInt8) : pcs (mixL (l ++ [46])) = none := by
  have hl := lastP_snoc 58 46 (by decide) l
  have hm : mixL (l ++ [46]) = l ++ [46] := by
    unfold mixL
    split
    · rename_i n hv
      rw [if_neg]
      intro e
      rw [hl] at e
      obtain ⟨r, b, e2, hb⟩ := tv4_snoc (v4O_lt hv)
      rw [e2] at e
      have := (List.append_inj' e rfl).2
      simp only [List.cons.injEq, and_true] at this
      rw [this] at hb
      exact absurd hb (by decide)
    · rfl
  rw [hm]
  unfold pcs
  rw [if_neg (by simp), if_neg]
  intro hall
  rw [List.all_eq_true] at hall
  have := hall _ (lastP_mem 58 (l ++ [46]))
  rw [hl, hexP_dot (by simp)] at this
  cases this
theorem cut_snoc {l : List UInt8} (h : (Lib.cut (l ++ [46]) [58, 58]).2.2 = true) : ∃ r, (Lib.cut (l ++ [46]) [58, 58]).2.1 = r ++ [46] := by
  unfold Lib.cut at h ⊢
  split at h
  · rename_i h0
    rw [if_pos h0]
    rcases Lib.index_spec (l ++ [46]) [58, 58] with ⟨e, _⟩ | ⟨i, e, hi, ho, _⟩
    · rw [e] at h0; omega
    · rw [e]
      simp only [Int.toNat_natCast, List.length_cons, List.length_nil]
      unfold Lib.occAt at ho
      rw [List.isPrefixOf_iff_prefix] at ho
      obtain ⟨t, ht⟩ := ho
      have hlen := congrArg List.length ht
      simp only [List.length_append, List.length_cons, List.length_nil, List.length_drop] at hlen
      have ht0 : t ≠ [] := by
        intro e0
        subst e0
        have h1 : (List.drop i (l ++ [46])).getLast? = some 46 := by
          rw [List.getLast?_drop]
          simp
          simp at hlen
          omega
        rw [← ht] at h1
        simp at h1
      have hd : List.drop (i + (0 + 1 + 1)) (l ++ [46]) = t := by
        rw [← List.drop_drop, ← ht]; rfl
      rw [hd]
      have h2 : t.getLast? = some 46 := by
        have h3 : (List.drop (i + (0 + 1 + 1)) (l ++ [46])).getLast? = some 46 := by
          rw [List.getLast?_drop, if_neg]
          · simp
          · intro hx
            have : t.length = 0 := by rw [← hd, List.length_drop]; omega
            exact ht0 (List.length_eq_zero_iff.1 this)
        rwa [hd] at h3
      obtain ⟨q, hq⟩ := List.getLast?_eq_some_iff.1 h2
      exact ⟨q, hq⟩
  · cases h
theorem v6_dot (l : List UInt8) : v6P (l ++ [46]) = none := by
  unfold v6P
  split
  · rfl
  · split
    · rename_i hc
      obtain ⟨r, hr⟩ := cut_snoc hc
      unfold shortP
      rw [hr, pcs_dot]
      split <;> rfl
    · rw [pcs_dot]
theorem v6_inj {a b : List Nat} (ha : a.length = 8) (hb : b.length = 8) (la : ∀ x ∈ a, x < 65536) (lb : ∀ x ∈ b, x < 65536) : (tv6 a = tv6 b) ↔ a = b := by
  refine ⟨fun h => ?_, fun h => by rw [h]⟩
  have h1 := v6_back ha la
  rw [h, v6_back hb lb] at h1
  exact (Option.some.inj h1).symm
/-- a byte as AddrBytes writes it -/
def hexF (x : Nat) : List UInt8 := [48, 120, hd (x / 16), if x % 16 < 10 then UInt8.ofNat (48 + x % 16) else UInt8.ofNat (55 + x % 16)]
def octF (x : Nat) : List UInt8 := [48, UInt8.ofNat (48 + x / 64), UInt8.ofNat (48 + x / 8 % 8), UInt8.ofNat (48 + x % 8)]
theorem forms_ok : ∀ x, x < 256 → numO (hexF x) = some x ∧ numO (octF x) = some x ∧ (46 : UInt8) ∉ hexF x ∧ (46 : UInt8) ∉ octF x ∧ (hexF x).getLast? ≠ some 46 ∧ (octF x).getLast? ≠ some 46 := by decide +kernel
theorem v4_forms (a b c d : List UInt8) (n0 n1 n2 n3 : Nat) (ha : numO a = some n0) (hb : numO b = some n1) (hc : numO c = some n2) (hd : numO d = some n3) (l0 : n0 < 256) (l1 : n1 < 256) (l2 : n2 < 256) (l3 : n3 < 256)
    (da : (46 : UInt8) ∉ a) (db : (46 : UInt8) ∉ b) (dc : (46 : UInt8) ∉ c) (dd : (46 : UInt8) ∉ d) (hne : d ≠ []) : v4O (a ++ 46 :: (b ++ 46 :: (c ++ 46 :: d))) = some (n0 * 16777216 + n1 * 65536 + n2 * 256 + n3) := by
  have e : a ++ 46 :: (b ++ 46 :: (c ++ 46 :: d)) = joinC 46 [a, b, c, d] := rfl
  have hnd : noDot (joinC 46 [a, b, c, d]) = joinC 46 [a, b, c, d] := by
    obtain ⟨r, x, hx, hm⟩ := snoc_of_ne hne
    have : joinC 46 [a, b, c, d] = (a ++ 46 :: (b ++ 46 :: (c ++ 46 :: r))) ++ [x] := by rw [← e, hx]; simp
    rw [this]
    exact noDot_id _ _ (fun hh => dd (by rw [← hh]; exact hm))
  rw [e]
  unfold v4O
  rw [hnd, parts_join 46 _ (by simp) (fun p hp => by
    simp only [List.mem_cons, List.mem_nil_iff, or_false] at hp
    rcases hp with rfl | rfl | rfl | rfl <;> assumption)]
  unfold v4P
  rw [if_pos (by simp)]
  simp only [sum4, ha, hb, hc, hd, Option.bind_some]
  rw [if_pos l0, if_pos l1, if_pos l2, if_pos (by simp only [pw]; omega)]
  simp only [Option.map_some, pw]
  exact congrArg some (by omega)
end Go.Proofs.YtamhmpgaapgmbaaDoor

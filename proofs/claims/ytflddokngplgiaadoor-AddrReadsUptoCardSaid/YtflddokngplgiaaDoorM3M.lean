import Derived.Test.YtflddokngplgiaaDoorA24M
import Derived.Lib.IndexMore
namespace Go.Proofs.YtflddokngplgiaaDoor
theorem dv_hd {d : Nat} (h : d < 16) : dv (hd d).toNat = d ∧ anyK kHex (hd d).toNat = true ∧ hd d ≠ 58 ∧ hd d ≠ 46 ∧ ¬ (65 ≤ (hd d).toNat ∧ (hd d).toNat ≤ 90) := by
  have key : ∀ d, d < 16 → (dv (hd d).toNat = d ∧ anyK kHex (hd d).toNat = true ∧ hd d ≠ 58 ∧ hd d ≠ 46 ∧ ¬ (65 ≤ (hd d).toNat ∧ (hd d).toNat ≤ 90)) := by decide +kernel
  exact key d h
theorem hexD_ind (P : Nat → List UInt8 → Prop) (h1 : ∀ d, d < 16 → P d [hd d]) (h2 : ∀ n l, 16 ≤ n → P (n / 16) l → P n (l ++ [hd (n % 16)])) : ∀ n, P n (hexD n) := by
  intro n
  induction n using Nat.strongRecOn with
  | _ n ih =>
    by_cases h : n < 16
    · rw [hexD_one h]; exact h1 n h
    · rw [hexD_more h]; exact h2 n _ (by omega) (ih (n / 16) (by omega))
theorem hexD_num : ∀ n, numL 16 (hexD n) = n :=
  hexD_ind (fun n l => numL 16 l = n) (fun d h => by show 0 * 16 + dv (hd d).toNat = d; rw [(dv_hd h).1]; omega) (fun n l h ih => by rw [numL_snoc, ih, (dv_hd (d := n % 16) (by omega)).1]; omega)
theorem hexD_all (Q : UInt8 → Prop) (hq : ∀ d, d < 16 → Q (hd d)) : ∀ n, ∀ b ∈ hexD n, Q b :=
  hexD_ind (fun _ l => ∀ b ∈ l, Q b) (fun d h b hb => by simp at hb; rw [hb]; exact hq d h) (fun n l _ ih b hb => by
    rcases List.mem_append.1 hb with hb | hb
    · exact ih b hb
    · simp at hb; rw [hb]; exact hq _ (by omega))
theorem hexD_ne (n : Nat) : hexD n ≠ [] := by
  have := hexD_pos n
  intro e; rw [e] at this; simp at this
theorem hexP_hexD {n : Nat} (h : n < 65536) : hexP (hexD n) = some n := by
  unfold hexP
  rw [if_pos (hexD_len n h)]
  unfold partO
  rw [if_pos, hexD_num, cap_of _ (by omega)]
  unfold madeL
  rw [Bool.and_eq_true, List.all_eq_true]
  refine ⟨hexD_all (fun b => anyK kHex b.toNat = true) (fun d h => (dv_hd h).2.1) n, ?_⟩
  have := hexD_ne n
  cases hq : hexD n with
  | nil => exact absurd hq this
  | cons _ _ => rfl
/-- no two colons stand together, none at the end -/
def ok2 : List UInt8 → Bool
  | [] => true
  | [a] => a != 58
  | a :: b :: r => !(a == 58 && b == 58) && ok2 (b :: r)
theorem cut_cons (a : UInt8) (l : List UInt8) (h : ¬ (a = 58 ∧ l.head? = some 58)) : Lib.cut (a :: l) [58, 58] = if (Lib.cut l [58, 58]).2.2 = true then (a :: (Lib.cut l [58, 58]).1, (Lib.cut l [58, 58]).2.1, true) else (a :: l, [], false) := by
  have hp : ([58, 58] : List UInt8).isPrefixOf (a :: l) = false := by
    rw [Bool.eq_false_iff]
    intro hp
    rw [List.isPrefixOf_iff_prefix] at hp
    obtain ⟨t, ht⟩ := hp
    simp only [List.cons_append, List.nil_append, List.cons.injEq] at ht
    exact h ⟨ht.1.symm, by rw [← ht.2]; rfl⟩
  have e : Lib.index (a :: l) [58, 58] = if Lib.index l [58, 58] == -1 then -1 else Lib.index l [58, 58] + 1 := by
    conv => lhs; unfold Lib.index
    rw [hp]; rfl
  have hg := Lib.index_ge l [58, 58]
  unfold Lib.cut
  rw [e]
  by_cases h0 : 0 ≤ Lib.index l [58, 58]
  · have h1 : (Lib.index l [58, 58] == -1) = false := by rw [beq_eq_false_iff_ne]; omega
    rw [h1]
    simp only [Bool.false_eq_true, if_false]
    rw [if_pos (by omega), if_pos h0]
    obtain ⟨i, hi⟩ : ∃ i : Nat, Lib.index l [58, 58] = i := ⟨(Lib.index l [58, 58]).toNat, by omega⟩
    rw [hi]
    have e1 : ((i : Int) + 1).toNat = i + 1 := by omega
    rw [e1, Int.toNat_natCast]
    simp only [if_true, List.take_succ_cons, List.length_cons, List.length_nil]
    rw [show i + 1 + (0 + 1 + 1) = (i + (0 + 1 + 1)) + 1 by omega, List.drop_succ_cons]
  · have h1 : Lib.index l [58, 58] = -1 := by omega
    rw [h1]
    simp
theorem cut_at (Y : List UInt8) : ∀ X : List UInt8, ok2 X = true → Lib.cut (X ++ 58 :: 58 :: Y) [58, 58] = (X, Y, true)
  | [], _ => by
    have : Lib.index (58 :: 58 :: Y) [58, 58] = 0 := by
      unfold Lib.index
      rw [if_pos (by rw [List.isPrefixOf_iff_prefix]; exact ⟨Y, rfl⟩)]
    simp [Lib.cut, this]
  | [a], h => by
    have ha : ¬ a = 58 := by simpa [ok2] using h
    rw [List.cons_append, cut_cons _ _ (fun hx => ha hx.1), cut_at Y [] rfl]
    simp
  | a :: b :: r, h => by
    have h1 : ¬ (a = 58 ∧ b = 58) ∧ ok2 (b :: r) = true := by
      simp only [ok2, Bool.and_eq_true, Bool.not_eq_true', Bool.and_eq_false_iff, beq_eq_false_iff_ne] at h
      exact ⟨fun hx => h.1.elim (fun g => g hx.1) (fun g => g hx.2), h.2⟩
    have ih := cut_at Y (b :: r) h1.2
    rw [List.cons_append, cut_cons _ _ (fun hx => h1.1 ⟨hx.1, by simpa using hx.2⟩), ih]
    simp
theorem cut_not : ∀ X : List UInt8, ok2 X = true → (Lib.cut X [58, 58]).2.2 = false
  | [], _ => rfl
  | [a], h => by
    have ha : ¬ a = 58 := by simpa [ok2] using h
    rw [cut_cons _ _ (fun hx => ha hx.1)]; rfl
  | a :: b :: r, h => by
    have h1 : ¬ (a = 58 ∧ b = 58) ∧ ok2 (b :: r) = true := by
      simp only [ok2, Bool.and_eq_true, Bool.not_eq_true', Bool.and_eq_false_iff, beq_eq_false_iff_ne] at h
      exact ⟨fun hx => h.1.elim (fun g => g hx.1) (fun g => g hx.2), h.2⟩
    rw [cut_cons _ _ (fun hx => h1.1 ⟨hx.1, by simpa using hx.2⟩), cut_not (b :: r) h1.2]
    rfl
theorem ok2_cons {a : UInt8} (l : List UInt8) (h : ¬ a = 58) (hl : ok2 l = true) : ok2 (a :: l) = true := by
  cases l with
  | nil => simpa [ok2] using h
  | cons b r => simp [ok2, h, hl]
theorem ok2_app (p l : List UInt8) (h : (58 : UInt8) ∉ p) (hl : ok2 l = true) : ok2 (p ++ l) = true := by
  induction p with
  | nil => exact hl
  | cons a r ih =>
    rw [List.cons_append]
    exact ok2_cons _ (fun e => h (by simp [e])) (ih (fun hx => h (List.mem_cons_of_mem _ hx)))
theorem ok2_colon {b : UInt8} (l : List UInt8) (h : ¬ b = 58) (hl : ok2 (b :: l) = true) : ok2 (58 :: b :: l) = true := by
  simp only [ok2]
  rw [hl]
  simp [h]
theorem hexD_colon (n : Nat) : (58 : UInt8) ∉ hexD n := fun h => hexD_all (fun b => b ≠ 58) (fun d hd => (dv_hd hd).2.2.1) n 58 h rfl
theorem hexD_dot (n : Nat) : (46 : UInt8) ∉ hexD n := fun h => hexD_all (fun b => b ≠ 46) (fun d hd => (dv_hd hd).2.2.2.1) n 46 h rfl
theorem txt_ok2 (l : List Nat) : ok2 (txtP l) = true := by
  unfold txtP
  induction l with
  | nil => rfl
  | cons a r ih =>
    cases r with
    | nil =>
      have := ok2_app (hexD a) [] (hexD_colon a) rfl
      rwa [List.append_nil] at this
    | cons b r' =>
      rw [List.map_cons, joinC_cons 58 _ _ (by simp)]
      refine ok2_app _ _ (hexD_colon a) ?_
      have hne : joinC 58 ((b :: r').map hexD) ≠ [] := by
        rw [List.map_cons]
        cases r' with
        | nil => exact hexD_ne b
        | cons c r2 => rw [List.map_cons, joinC_cons 58 _ _ (by simp)]; simp
      cases hq : joinC 58 ((b :: r').map hexD) with
      | nil => exact absurd hq hne
      | cons x y =>
        rw [hq] at ih
        refine ok2_colon _ ?_ ih
        have hb := hexD_ne b
        cases hh : hexD b with
        | nil => exact absurd hh hb
        | cons u v =>
          have hx : x = u := by
            rw [List.map_cons] at hq
            cases r' with
            | nil =>
              have e : hexD b = x :: y := hq
              rw [hh] at e; injection e with e1 _; exact e1.symm
            | cons c r2 =>
              rw [List.map_cons, joinC_cons 58 _ _ (by simp), hh] at hq
              injection hq with e1 _; exact e1.symm
          rw [hx]
          exact fun e => hexD_colon b (by rw [hh, e]; simp)
theorem txt_parts (l : List Nat) (hne : l ≠ []) : partsAt 58 (txtP l) = l.map hexD := by
  unfold txtP
  refine parts_join 58 _ (by simpa using hne) (fun p hp => ?_)
  obtain ⟨n, _, rfl⟩ := List.mem_map.1 hp
  exact hexD_colon n
theorem txt_ne (l : List Nat) (hne : l ≠ []) : txtP l ≠ [] := by
  unfold txtP
  cases l with
  | nil => exact absurd rfl hne
  | cons a r =>
    cases r with
    | nil => exact hexD_ne a
    | cons b r' => rw [List.map_cons, joinC_cons 58 _ _ (by simp)]; simp
theorem txt_pcs (l : List Nat) (h : ∀ x ∈ l, x < 65536) : pcs (txtP l) = some l := by
  by_cases hne : l = []
  · subst hne; rfl
  · unfold pcs
    rw [if_neg (txt_ne l hne), txt_parts l hne, if_pos]
    · rw [List.map_map]
      have : (hexV ∘ hexD) = fun x => hexV (hexD x) := rfl
      rw [this]
      congr 1
      conv => rhs; rw [← List.map_id l]
      refine List.map_congr_left fun x hx => ?_
      unfold hexV; rw [hexP_hexD (h x hx)]; rfl
    · rw [List.all_eq_true]
      intro p hp
      obtain ⟨x, hx, rfl⟩ := List.mem_map.1 hp
      rw [hexP_hexD (h x hx)]; rfl
theorem mix_nodot {l : List UInt8} (h : (46 : UInt8) ∉ lastP 58 l) : mixL l = l := by
  unfold mixL
  split
  · rw [if_neg]
    intro e
    exact h (by rw [← e]; exact tv4_has_dot _)
  · rfl
theorem txt_dot (l : List Nat) : (46 : UInt8) ∉ lastP 58 (txtP l) := by
  by_cases hne : l = []
  · subst hne; decide
  · have := lastP_mem 58 (txtP l)
    rw [txt_parts l hne] at this
    obtain ⟨n, _, e⟩ := List.mem_map.1 this
    rw [← e]; exact hexD_dot n
theorem txt_len (l : List Nat) (hl : ∀ x ∈ l, x < 65536) (hne : l ≠ []) : (txtP l).length + 1 ≤ 5 * l.length := by
  unfold txtP
  induction l with
  | nil => exact absurd rfl hne
  | cons a r ih =>
    have h1 := hexD_len a (hl a (by simp))
    cases r with
    | nil => simp [joinC]; omega
    | cons b r' =>
      have := ih (fun x hx => hl x (by simp at hx ⊢; exact Or.inr hx)) (by simp)
      simp only [List.map_cons, joinC, List.length_append, List.length_cons] at this ⊢
      omega
theorem tv6_len {l : List Nat} (hl : l.length = 8) (bl : ∀ x ∈ l, x < 65536) : (tv6 l).length ≤ 39 := by
  unfold tv6
  rcases lng_cases l 8 (Nat.le_refl _) with h | ⟨f, k, h1, h2, h3, h4, _⟩
  · rw [h, if_pos rfl]
    have := txt_len l bl (by intro e; rw [e] at hl; cases hl)
    omega
  · rw [h4]
    simp only
    rw [if_neg (by omega), List.length_append, List.length_append]
    have a1 := txtP_len (l.take f) (fun x hx => bl x (List.mem_of_mem_take hx))
    have a2 := txtP_len (l.drop (f + k)) (fun x hx => bl x (List.mem_of_mem_drop hx))
    simp only [List.length_take, List.length_drop, hl, List.length_cons, List.length_nil] at a1 a2 ⊢
    omega
theorem v6_back {l : List Nat} (hl : l.length = 8) (bl : ∀ x ∈ l, x < 65536) : v6P (tv6 l) = some l := by
  have hlen := tv6_len hl bl
  unfold v6P
  rw [if_neg (by omega)]
  rcases lng_cases l 8 (Nat.le_refl _) with h | ⟨f, k, h1, h2, h3, h4, h5, _⟩
  · have e : tv6 l = txtP l := by unfold tv6; rw [h, if_pos rfl]
    rw [e, cut_not _ (txt_ok2 l)]
    simp only [Bool.false_eq_true, if_false]
    rw [mix_nodot (txt_dot l), txt_pcs l bl]
    simp [hl]
  · have e : tv6 l = txtP (l.take f) ++ 58 :: 58 :: txtP (l.drop (f + k)) := by
      unfold tv6
      rw [h4]
      simp only
      have hne : ¬ f = f + k := by omega
      rw [if_neg hne]
      simp
    rw [e, cut_at _ _ (txt_ok2 _), if_pos rfl]
    simp only
    unfold shortP
    rw [txt_pcs _ (fun x hx => bl x (List.mem_of_mem_take hx)), mix_nodot (txt_dot _), txt_pcs _ (fun x hx => bl x (List.mem_of_mem_drop hx))]
    simp only
    rw [if_pos (by rw [List.length_take, List.length_drop, hl]; omega)]
    congr 1
    conv => rhs; rw [← h5]
    unfold wo
    rw [List.length_take, List.length_drop, hl, show 8 - min f 8 - (8 - (f + k)) = f + k - f by omega]
theorem v6_mapped {n : Nat} (hn : n < 4294967296) : v6P (58 :: 58 :: tv4 n) = some [0, 0, 0, 0, 0, 0, n / 65536, n % 65536] := by
  have hlen := tv4_len hn
  unfold v6P
  rw [if_neg (by simp; omega)]
  have hc := cut_at (tv4 n) [] rfl
  rw [List.nil_append] at hc
  rw [hc, if_pos rfl]
  simp only
  have hlast : lastP 58 (tv4 n) = tv4 n := lastP_miss 58 _ (tv4_colon hn)
  have hm : mixL (tv4 n) = txtP [n / 65536, n % 65536] := by
    unfold mixL
    rw [hlast, v4_back hn]
    simp
  unfold shortP
  rw [hm, txt_pcs _ (fun x hx => by simp at hx; omega)]
  rfl
theorem tv6_chars {l : List Nat} : ∀ b ∈ tv6 l, b ≠ 46 ∧ ¬ (65 ≤ b.toNat ∧ b.toNat ≤ 90) := by
  have ht : ∀ m : List Nat, ∀ b ∈ txtP m, b ≠ 46 ∧ ¬ (65 ≤ b.toNat ∧ b.toNat ≤ 90) := by
    intro m
    unfold txtP
    induction m with
    | nil => intro b hb; cases hb
    | cons a r ih =>
      have h1 := hexD_all (fun b => b ≠ 46 ∧ ¬ (65 ≤ b.toNat ∧ b.toNat ≤ 90)) (fun d hd => (dv_hd hd).2.2.2) a
      cases r with
      | nil => exact h1
      | cons c r' =>
        intro b hb
        rw [List.map_cons, joinC_cons 58 _ _ (by simp)] at hb
        rcases List.mem_append.1 hb with hb | hb
        · exact h1 b hb
        · rcases List.mem_cons.1 hb with hb | hb
          · rw [hb]; decide
          · exact ih b hb
  intro b hb
  unfold tv6 at hb
  split at hb
  · exact ht _ b hb
  · rcases List.mem_append.1 hb with hb | hb
    · rcases List.mem_append.1 hb with hb | hb
      · exact ht _ b hb
      · simp at hb; rw [hb]; decide
    · exact ht _ b hb
end Go.Proofs.YtflddokngplgiaaDoor
namespace Go.Proofs.YtflddokngplgiaaDoor
theorem v4_dot (r : List UInt8) (b : UInt8) (h : ¬ b = 46) : v4O ((r ++ [b]) ++ [46]) = v4O (r ++ [b]) := by
  unfold v4O
  rw [noDot_dot, noDot_id r b h]
theorem ends_dot (r : List UInt8) (b : UInt8) (h : ¬ b = 46) : endsB ((r ++ [b]) ++ [46]) = endsB (r ++ [b]) := by
  unfold endsB
  rw [noDot_dot, noDot_id r b h]
theorem hexP_dot {p : List UInt8} (h : (46 : UInt8) ∈ p) : hexP p = none := by
  unfold hexP
  split
  · unfold partO
    rw [if_neg]
    unfold madeL
    rw [Bool.and_eq_true, List.all_eq_true]
    intro hx
    have := hx.1 46 h
    exact absurd this (by decide)
  · rfl
theorem pcs_dot (l : List UInt8) : pcs (mixL (l ++ [46])) = none := by
  have hl := lastP_snoc 58 46 (by decide) l
  have hm : mixL (l ++ [46]) = l ++ [46] := by
    unfold mixL
    split
    · rename_i n hv
      rw [if_neg]
      intro e
      rw [hl] at e
      obtain ⟨r, b, e2, hb⟩ := tv4_snoc (v4O_lt hv)
      rw [e2] at e
      have := (List.append_inj' e rfl).2
      simp only [List.cons.injEq, and_true] at this
      rw [this] at hb
      exact absurd hb (by decide)
    · rfl
  rw [hm]
  unfold pcs
  rw [if_neg (by simp), if_neg]
  intro hall
  rw [List.all_eq_true] at hall
  have := hall _ (lastP_mem 58 (l ++ [46]))
  rw [hl, hexP_dot (by simp)] at this
  cases this
theorem cut_snoc {l : List UInt8} (h : (Lib.cut (l ++ [46]) [58, 58]).2.2 = true) : ∃ r, (Lib.cut (l ++ [46]) [58, 58]).2.1 = r ++ [46] := by
  unfold Lib.cut at h ⊢
  split at h
  · rename_i h0
    rw [if_pos h0]
    rcases Lib.index_spec (l ++ [46]) [58, 58] with ⟨e, _⟩ | ⟨i, e, hi, ho, _⟩
    · rw [e] at h0; omega
    · rw [e]
      simp only [Int.toNat_natCast, List.length_cons, List.length_nil]
      unfold Lib.occAt at ho
      rw [List.isPrefixOf_iff_prefix] at ho
      obtain ⟨t, ht⟩ := ho
      have hlen := congrArg List.length ht
      simp only [List.length_append, List.length_cons, List.length_nil, List.length_drop] at hlen
      have ht0 : t ≠ [] := by
        intro e0
        subst e0
        have h1 : (List.drop i (l ++ [46])).getLast? = some 46 := by
          rw [List.getLast?_drop]
          simp
          simp at hlen
          omega
        rw [← ht] at h1
        simp at h1
      have hd : List.drop (i + (0 + 1 + 1)) (l ++ [46]) = t := by
        rw [← List.drop_drop, ← ht]; rfl
      rw [hd]
      have h2 : t.getLast? = some 46 := by
        have h3 : (List.drop (i + (0 + 1 + 1)) (l ++ [46])).getLast? = some 46 := by
          rw [List.getLast?_drop, if_neg]
          · simp
          · intro hx
            have : t.length = 0 := by rw [← hd, List.length_drop]; omega
            exact ht0 (List.length_eq_zero_iff.1 this)
        rwa [hd] at h3
      obtain ⟨q, hq⟩ := List.getLast?_eq_some_iff.1 h2
      exact ⟨q, hq⟩
  · cases h
theorem v6_dot (l : List UInt8) : v6P (l ++ [46]) = none := by
  unfold v6P
  split
  · rfl
  · split
    · rename_i hc
      obtain ⟨r, hr⟩ := cut_snoc hc
      unfold shortP
      rw [hr, pcs_dot]
      split <;> rfl
    · rw [pcs_dot]
theorem v6_inj {a b : List Nat} (ha : a.length = 8) (hb : b.length = 8) (la : ∀ x ∈ a, x < 65536) (lb : ∀ x ∈ b, x < 65536) : (tv6 a = tv6 b) ↔ a = b := by
  refine ⟨fun h => ?_, fun h => by rw [h]⟩
  have h1 := v6_back ha la
  rw [h, v6_back hb lb] at h1
  exact (Option.some.inj h1).symm
/-- a byte as AddrBytes writes it -/
def hexF (x : Nat) : List UInt8 := [48, 120, hd (x / 16), if x % 16 < 10 then UInt8.ofNat (48 + x % 16) else UInt8.ofNat (55 + x % 16)]
def octF (x : Nat) : List UInt8 := [48, UInt8.ofNat (48 + x / 64), UInt8.ofNat (48 + x / 8 % 8), UInt8.ofNat (48 + x % 8)]
theorem forms_ok : ∀ x, x < 256 → numO (hexF x) = some x ∧ numO (octF x) = some x ∧ (46 : UInt8) ∉ hexF x ∧ (46 : UInt8) ∉ octF x ∧ (hexF x).getLast? ≠ some 46 ∧ (octF x).getLast? ≠ some 46 := by decide +kernel
theorem v4_forms (a b c d : List UInt8) (n0 n1 n2 n3 : Nat) (ha : numO a = some n0) (hb : numO b = some n1) (hc : numO c = some n2) (hd : numO d = some n3) (l0 : n0 < 256) (l1 : n1 < 256) (l2 : n2 < 256) (l3 : n3 < 256)
    (da : (46 : UInt8) ∉ a) (db : (46 : UInt8) ∉ b) (dc : (46 : UInt8) ∉ c) (dd : (46 : UInt8) ∉ d) (hne : d ≠ []) : v4O (a ++ 46 :: (b ++ 46 :: (c ++ 46 :: d))) = some (n0 * 16777216 + n1 * 65536 + n2 * 256 + n3) := by
  have e : a ++ 46 :: (b ++ 46 :: (c ++ 46 :: d)) = joinC 46 [a, b, c, d] := rfl
  have hnd : noDot (joinC 46 [a, b, c, d]) = joinC 46 [a, b, c, d] := by
    obtain ⟨r, x, hx, hm⟩ := snoc_of_ne hne
    have : joinC 46 [a, b, c, d] = (a ++ 46 :: (b ++ 46 :: (c ++ 46 :: r))) ++ [x] := by rw [← e, hx]; simp
    rw [this]
    exact noDot_id _ _ (fun hh => dd (by rw [← hh]; exact hm))
  rw [e]
  unfold v4O
  rw [hnd, parts_join 46 _ (by simp) (fun p hp => by
    simp only [List.mem_cons, List.mem_nil_iff, or_false] at hp
    rcases hp with rfl | rfl | rfl | rfl <;> assumption)]
  unfold v4P
  rw [if_pos (by simp)]
  simp only [sum4, ha, hb, hc, hd, Option.bind_some]
  rw [if_pos l0, if_pos l1, if_pos l2, if_pos (by simp only [pw]; omega)]
  simp only [Option.map_some, pw]
  exact congrArg some (by omega)
end Go.Proofs.YtflddokngplgiaaDoor

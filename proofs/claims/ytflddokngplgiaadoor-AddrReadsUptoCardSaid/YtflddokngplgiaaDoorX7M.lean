import Derived.Test.YtflddokngplgiaaDoorX6M
namespace Go.Proofs.YtflddokngplgiaaDoor
theorem min_step (b a d : Nat) (hb : 1 ≤ b) : min ((min a 1099511627776) * b + d) 1099511627776 = min (a * b + d) 1099511627776 := by
  by_cases h : a ≤ 1099511627776
  · rw [Nat.min_eq_left h]
  · have h1 : 1099511627776 ≤ 1099511627776 * b := Nat.le_mul_of_pos_right _ hb
    have h2 : a ≤ a * b := Nat.le_mul_of_pos_right _ hb
    rw [Nat.min_eq_right (show 1099511627776 ≤ a by omega), Nat.min_eq_right (show 1099511627776 ≤ 1099511627776 * b + d by omega), Nat.min_eq_right (show 1099511627776 ≤ a * b + d by omega)]
theorem capN_all (b : Nat) (hb : 1 ≤ b) : ∀ (l : List UInt8) (a : Nat), capN b (min a 1099511627776) l = if l.all (fun c => decide (dgt c.toNat < b)) then some (min (l.foldl (fun x c => x * b + dgt c.toNat) a) 1099511627776) else none
  | [], a => by simp [capN]
  | c :: r, a => by
    by_cases h : b ≤ dgt c.toNat
    · rw [capN_none h, if_neg (by simp; omega)]
    · rw [capN_step h, min_step b a _ hb, capN_all b hb r]
      have h' : dgt c.toNat < b := by omega
      simp only [List.all_cons, decide_eq_true h', Bool.true_and, List.foldl_cons]
theorem dig16 : ∀ n, n < 256 → (decide (dgt n < 16) = anyK kHex n) ∧ (anyK kHex n = true → dgt n = dv n) := by decide +kernel
theorem dig10 : ∀ n, n < 256 → (decide (dgt n < 10) = anyK [kDec] n) ∧ (anyK [kDec] n = true → dgt n = dv n) := by decide +kernel
theorem dig8 : ∀ n, n < 256 → (decide (dgt n < 8) = anyK [kOct] n) ∧ (anyK [kOct] n = true → dgt n = dv n) := by decide +kernel
theorem fold_dv {ks : List Kd} {b : Nat} (hk : ∀ n, n < 256 → anyK ks n = true → dgt n = dv n) : ∀ (l : List UInt8) (a : Nat), l.all (fun c => anyK ks c.toNat) = true → l.foldl (fun x c => x * b + dgt c.toNat) a = l.foldl (fun x c => x * b + dv c.toNat) a
  | [], _, _ => rfl
  | c :: r, a, h => by
    simp only [List.all_cons, Bool.and_eq_true] at h
    simp only [List.foldl_cons]
    rw [hk c.toNat (UInt8.toNat_lt _) h.1, fold_dv hk r _ h.2]
theorem cap_min (n : Nat) : min (cap n) 1099511627776 = min n 1099511627776 := by unfold cap; split <;> omega
theorem capN_part {ks : List Kd} {b : Nat} (hb : 1 ≤ b) (hk : ∀ n, n < 256 → (decide (dgt n < b) = anyK ks n) ∧ (anyK ks n = true → dgt n = dv n)) (l : List UInt8) (hl : l ≠ []) :
    capN b 0 l = (partO ks b l).map (fun n => min n 1099511627776) := by
  have h0 := capN_all b hb l 0
  rw [show min 0 1099511627776 = 0 from rfl] at h0
  have e : l.all (fun c => decide (dgt c.toNat < b)) = l.all (fun c => anyK ks c.toNat) := by
    congr 1; funext c; exact (hk c.toNat (UInt8.toNat_lt _)).1
  have hne : l.isEmpty = false := by cases l <;> simp_all
  rw [h0, e]
  unfold partO madeL
  rw [hne]
  by_cases ha : l.all (fun c => anyK ks c.toNat) = true
  · rw [if_pos ha, if_pos (by rw [ha]; rfl), fold_dv (fun n hn => (hk n hn).2) l 0 ha]
    simp only [Option.map_some, cap_min]
    rfl
  · have ha' : l.all (fun c => anyK ks c.toNat) = false := by simpa using ha
    rw [ha', if_neg (by decide), if_neg (by decide)]; rfl
theorem refN_num (l : List UInt8) : refN l = (numO l).map (fun n => min n 1099511627776) := by
  unfold refN numO
  by_cases h0 : l = []
  · subst h0; rfl
  rw [if_neg h0]
  by_cases h1 : l = [48, 120] ∨ l = [48, 88]
  · rw [if_pos h1]
    rcases h1 with rfl | rfl <;> rfl
  rw [if_neg h1]
  by_cases h2 : 2 ≤ l.length ∧ l[0]? = some 48 ∧ (l[1]? = some 120 ∨ l[1]? = some 88)
  · have h3 : 2 < l.length := by
      rcases l with _ | ⟨a, _ | ⟨b, _ | ⟨c, r⟩⟩⟩
      · simp at h2
      · simp at h2
      · exfalso; simp at h2 h1; obtain ⟨rfl, rfl | rfl⟩ := h2 <;> simp at h1
      · simp
    rw [if_pos h2, if_pos ⟨h3, h2.2.1, h2.2.2⟩]
    exact capN_part (by decide) dig16 _ (by intro e; have := congrArg List.length e; simp at this; omega)
  · rw [if_neg h2, if_neg (show ¬ (2 < l.length ∧ l[0]? = some 48 ∧ (l[1]? = some 120 ∨ l[1]? = some 88)) from fun h => h2 ⟨by omega, h.2.1, h.2.2⟩)]
    by_cases h4 : 2 ≤ l.length ∧ l[0]? = some 48
    · rw [if_pos h4, if_pos ⟨by omega, h4.2⟩]
      rcases l with _ | ⟨a, r⟩
      · exact absurd rfl h0
      have ha : a = 48 := by simpa using h4.2
      subst ha
      have hr : r ≠ [] := by intro e; subst e; simp at h4
      rw [show (48 :: r : List UInt8).drop 1 = r from rfl, capN_part (by decide) dig8 r hr]
      have hre : r.isEmpty = false := by cases r <;> simp_all
      have e1 : madeL [kOct] (48 :: r) = madeL [kOct] r := by
        unfold madeL
        rw [hre, List.all_cons]
        rfl
      have e2 : numL 8 (48 :: r) = numL 8 r := rfl
      unfold partO
      rw [e1, e2]
    · rw [if_neg h4, if_neg (show ¬ (1 < l.length ∧ l[0]? = some 48) from fun h => h4 ⟨by omega, h.2⟩)]
      exact capN_part (by decide) dig10 l h0
end Go.Proofs.YtflddokngplgiaaDoor
namespace Go.Proofs.YtflddokngplgiaaDoor
/-- the parts, as the document's answer takes them: an empty last one is left out -/
def refPs (l : List UInt8) : List (List UInt8) := if 1 < (partsAt 46 l).length ∧ (partsAt 46 l).getLastD [] = [] then (partsAt 46 l).dropLast else partsAt 46 l
theorem partsAt_end (c : UInt8) : ∀ l : List UInt8, partsAt c (l ++ [c]) = partsAt c l ++ [[]]
  | [] => by simp [partsAt]
  | b :: r => by
    have ih := partsAt_end c r
    rw [List.cons_append]
    by_cases h : b = c
    · subst h; simp only [partsAt, if_true, ih, List.cons_append]
    · rw [partsAt_cons_ne _ h, partsAt_cons_ne _ h, ih]
      rcases hq : partsAt c r with _ | ⟨p, q⟩
      · exfalso
        have : partsAt c r ≠ [] := by cases r <;> simp only [partsAt] <;> (try split) <;> simp
        exact this hq
      · simp
theorem partsAt_some (c : UInt8) (r : List UInt8) : 0 < (partsAt c r).length := by
  cases r <;> simp only [partsAt] <;> (try split) <;> simp
theorem refPs_is (l : List UInt8) : refPs l = partsAt 46 (noDot l) := by
  by_cases h : l = []
  · subst h; rfl
  obtain ⟨r, b, hr, _⟩ := snoc_of_ne h
  subst hr
  unfold refPs
  by_cases hb : b = 46
  · subst hb
    rw [noDot_dot, partsAt_end, if_pos ⟨by have := partsAt_some 46 r; simp; omega, by simp⟩]
    simp
  · rw [noDot_id _ _ hb, partsAt_snoc 46 b hb, if_neg (by rintro ⟨_, e⟩; simp at e)]
/-- below a room it is no matter whether what is too great stays great -/
theorem ref_room {α : Type} (p : List UInt8) (R : Nat) (hR : R ≤ 1099511627776) (f : Nat → Option α) : (refN p).bind (fun n => if n < R then f n else none) = (numO p).bind (fun n => if n < R then f n else none) := by
  rw [refN_num]
  cases numO p with
  | none => rfl
  | some n =>
    simp only [Option.map_some, Option.bind_some]
    by_cases h : n ≤ 1099511627776
    · rw [Nat.min_eq_left h]
    · rw [Nat.min_eq_right (by omega), if_neg (by omega), if_neg (by omega)]
/-- the reference's Ends, told by the parts -/
def refEnds (l : List UInt8) : Bool :=
  let p := lastP 46 (noDot l)
  !p.isEmpty && (p.all (fun b => decide (48 ≤ b.toNat) && decide (b.toNat ≤ 57)) || (refN p).isSome)
theorem refEnds_is (l : List UInt8) : refEnds l = endsB l := by
  unfold refEnds endsB
  simp only
  have hn : (refN (lastP 46 (noDot l))).isSome = (numO (lastP 46 (noDot l))).isSome := by rw [refN_num]; cases numO (lastP 46 (noDot l)) <;> rfl
  rw [hn]
  have hk : (lastP 46 (noDot l)).all (fun b => decide (48 ≤ b.toNat) && decide (b.toNat ≤ 57)) = (lastP 46 (noDot l)).all (fun b => anyK [kDec] b.toNat) := by
    congr 1; funext b; simp [anyK, kHas, kDec]
  rw [hk]
  unfold madeL
  rcases hq : lastP 46 (noDot l) with _ | ⟨c, r⟩
  · rfl
  · simp [Bool.or_comm]
end Go.Proofs.YtflddokngplgiaaDoor

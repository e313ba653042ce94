/-
  Mathematics of the document's runs.
-/
import Derived.Test.YtflddokngplgiaaDoorXEM
namespace Go.Proofs.YtflddokngplgiaaDoor
open Go.RowKit
def runsP (d : Bool) (l : List UInt8) : Option (List Nat) := if d = true then pcsM l else pcs l
def hex1 (p : List UInt8) : Option (List Nat) := (hexP p).map fun n => [n]
def wordD (d : Bool) (p : List UInt8) : Option (List Nat) := if d = true then (match strictP p with | some n => some [n / 65536, n % 65536] | none => hex1 p) else hex1 p
def runG (d : Bool) : List (List UInt8) → List Nat → Option (List Nat)
  | [], xs => some xs
  | p :: r, xs => (wordD (d && r.isEmpty) p).bind fun y => runG d r (xs ++ y)
theorem words_cons (p : List UInt8) (r : List (List UInt8)) : wordsR (p :: r) = (hexP p).bind fun n => (wordsR r).map fun y => n :: y := by
  unfold wordsR
  rw [List.all_cons]
  cases h : hexP p with
  | none => simp
  | some n =>
    have hv : hexV p = n := by unfold hexV; rw [h]; rfl
    simp only [Option.isSome_some, Bool.true_and, Option.bind_some, List.map_cons, hv]
    split <;> rfl
theorem runG_false : ∀ (ps : List (List UInt8)) (xs : List Nat), runG false ps xs = (wordsR ps).map fun y => xs ++ y
  | [], xs => by simp [runG, wordsR]
  | p :: r, xs => by
    rw [runG, words_cons]
    simp only [Bool.false_and]
    unfold wordD hex1
    simp only [Bool.false_eq_true, if_false]
    cases hexP p with
    | none => rfl
    | some n =>
      simp only [Option.map_some, Option.bind_some]
      rw [runG_false r]
      cases wordsR r <;> simp
theorem runG_true : ∀ (D : List (List UInt8)) (q : List UInt8) (xs : List Nat), runG true (D ++ [q]) xs = (wordsR D).bind fun y => (wordD true q).map fun z => xs ++ y ++ z
  | [], q, xs => by
    rw [List.nil_append, runG]
    have : wordsR [] = some [] := rfl
    rw [this]
    simp only [List.isEmpty_nil, Bool.and_true, Option.bind_some, List.append_nil]
    cases wordD true q <;> rfl
  | p :: D, q, xs => by
    rw [List.cons_append, runG, words_cons]
    have he : (D ++ [q]).isEmpty = false := by cases D <;> rfl
    rw [he, Bool.and_false]
    unfold wordD hex1
    simp only [Bool.false_eq_true, if_false]
    cases hexP p with
    | none => rfl
    | some n =>
      simp only [Option.map_some, Option.bind_some]
      have := runG_true D q (xs ++ [n])
      unfold wordD hex1 at this
      rw [this]
      cases wordsR D <;> simp
theorem runs_eq (d : Bool) {l : List UInt8} (h : l ≠ []) : runsP d l = runG d (partsAt 58 l) [] := by
  cases d with
  | false =>
    rw [runG_false]
    unfold runsP
    rw [if_neg (by simp), pcs_words h]
    cases wordsR (partsAt 58 l) <;> simp
  | true =>
    have hs := last_split 58 l
    unfold runsP
    rw [if_pos rfl, hs, runG_true]
    unfold pcsM
    rw [if_neg h]
    generalize lastP 58 l = q at *
    rw [hs]
    generalize (partsAt 58 l).dropLast = D at *
    unfold wordD
    simp only [if_true, List.nil_append]
    rw [List.dropLast_concat]
    cases hq : strictP q with
    | some n =>
      simp only [Option.map_some]
      cases wordsR D <;> simp
    | none =>
      simp only
      have key : ∀ D : List (List UInt8), wordsR (D ++ [q]) = (wordsR D).bind fun y => (hex1 q).map fun z => y ++ z := by
        intro D
        induction D with
        | nil =>
          rw [List.nil_append, words_cons]
          unfold hex1
          have : wordsR [] = some [] := rfl
          rw [this]
          cases hexP q <;> rfl
        | cons p D ih =>
          rw [List.cons_append, words_cons, words_cons, ih]
          cases hexP p with
          | none => rfl
          | some n =>
            simp only [Option.bind_some]
            cases wordsR D <;> cases hex1 q <;> rfl
      rw [key D]
theorem runG_next (d : Bool) {ps : List (List UInt8)} {m : Nat} {p : List UInt8} (xs : List Nat) (h : ps[m]? = some p) : runG d (ps.drop m) xs = (wordD (d && decide (m + 1 = ps.length)) p).bind fun y => runG d (ps.drop (m + 1)) (xs ++ y) := by
  obtain ⟨hk, e⟩ := List.getElem?_eq_some_iff.1 h
  have he : (ps.drop (m + 1)).isEmpty = decide (m + 1 = ps.length) := by
    by_cases hm : m + 1 = ps.length
    · rw [List.drop_of_length_le (by omega), decide_eq_true hm]; rfl
    · rw [decide_eq_false hm]
      cases hd : ps.drop (m + 1) with
      | nil => have := congrArg List.length hd; rw [List.length_drop] at this; simp at this; omega
      | cons _ _ => rfl
  rw [List.drop_eq_getElem_cons hk, e, runG, he]
/-- a piece in hexadecimal digits, as the loop reads it -/
def hxAll (p : List UInt8) : Bool := p.all fun b => anyK kHex b.toNat
theorem hexP_no {p : List UInt8} (h : p = [] ∨ 4 < p.length ∨ hxAll p = false) : hexP p = none := by
  unfold hexP
  by_cases h4 : p.length ≤ 4
  · rw [if_pos h4]
    unfold partO madeL
    rcases h with rfl | h | h
    · rfl
    · omega
    · unfold hxAll at h
      rw [h]; rfl
  · rw [if_neg h4]
theorem hex_bound {p : List UInt8} (h : hxAll p = true) (h4 : p.length ≤ 4) : numL 16 p < 65536 := by
  have h1 := numL16 p (fun b hb => List.all_eq_true.1 h b hb)
  exact Nat.lt_of_lt_of_le h1 (Nat.pow_le_pow_right (n := 16) (by omega) h4)
theorem hexP_yes {p : List UInt8} (h0 : p ≠ []) (h4 : p.length ≤ 4) (h : hxAll p = true) : hexP p = some (numL 16 p) := by
  have hb := hex_bound h h4
  unfold hexP
  rw [if_pos h4]
  unfold partO madeL
  have he : p.isEmpty = false := by cases p with
    | nil => exact absurd rfl h0
    | cons _ _ => rfl
  unfold hxAll at h
  rw [h, he]
  have hc : cap (numL 16 p) = numL 16 p := by unfold cap; rw [if_pos (by omega)]
  rw [hc]; rfl
theorem num16_snoc (p : List UInt8) (b : UInt8) : numL 16 (p ++ [b]) = numL 16 p * 16 + dv b.toNat := by unfold numL; rw [List.foldl_append]; rfl
theorem hx_take {p : List UInt8} {j : Nat} (h : ∀ (t : Nat) y, t < j → p[t]? = some y → anyK kHex y.toNat = true) : hxAll (p.take j) = true := List.all_eq_true.2 fun y hy => by
  obtain ⟨t, ht, rfl⟩ := List.getElem_of_mem hy
  rw [List.length_take] at ht
  exact h t _ (by omega) (by rw [List.getElem_take]; exact List.getElem?_eq_getElem (by omega))
theorem hx_not {p : List UInt8} {b : UInt8} {j : Nat} (h : p[j]? = some b) (hb : anyK kHex b.toNat = false) : hxAll p = false := List.all_eq_false.2 ⟨b, List.mem_of_getElem? h, by rw [hb]; simp⟩
theorem info26x : (Tryd.prog.info? 26).map (fun i => (i.zero, i.size, i.bytes)) = some (some (.int .u16 0), 1, 2) := by kernel_rfl
end Go.Proofs.YtflddokngplgiaaDoor

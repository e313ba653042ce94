/-
  Mathematics of the document's Source: the host's name, port and path.
-/
import Derived.Test.YtempmmkdppelaaaGreatDoorVNM
namespace Go.Proofs.YtempmmkdppelaaaGreatDoor
open Go.RowKit
/-- a host's name, and what stands behind it -/
def rhN (x : Src) (s : List UInt8) : Option (Src × List UInt8) :=
  if s[0]? = some 42 then
    if s[1]? = some 46 then
      if rname (s.drop 2) < 0 then none else some ({ x with wild := true, text := lowS (mkB ((s.drop 2).take (rname (s.drop 2)).toNat)) }, (s.drop 2).drop (rname (s.drop 2)).toNat)
    else some ({ x with wild := true, text := lowS (mkB []) }, s.drop 1)
  else if rname s < 0 then none else some ({ x with text := lowS (mkB (s.take (rname s).toNat)) }, s.drop (rname s).toNat)
/-- a host's port, and what stands behind it -/
def rhPort (x : Src) (s : List UInt8) : Option (Src × List UInt8) :=
  if s[0]? = some 58 then
    if 5 < ((s.drop 1).takeWhile digB).length then none
    else if ((s.drop 1).takeWhile digB).length = 0 then
      if (s.drop 1)[0]? = some 42 then some ({ x with anyPort := true }, (s.drop 1).drop 1) else none
    else if 65535 < decV ((s.drop 1).takeWhile digB) then none
    else some ({ x with hasPort := true, port := (decV ((s.drop 1).takeWhile digB) : Nat) }, (s.drop 1).drop ((s.drop 1).takeWhile digB).length)
  else some (x, s)
def badB (b : UInt8) : Bool := ([59, 44, 63, 35] : List UInt8).contains b
/-- a host's path -/
def rhPath (x : Src) (s : List UInt8) : Option Src :=
  if s ≠ [] ∧ s[0]? ≠ some 47 then none else if s.any badB = true then none else some { x with path := mkB s }
def rhT (y : Src × List UInt8) : Option Src := (rhPort y.1 y.2).bind fun z => rhPath z.1 z.2
/-- a host, read -/
def rHost (s : List UInt8) : Option Src := (rhN { (rhX s).1 with kind := 5 } (rhX s).2).bind rhT
theorem path_none (x : Src) {s : List UInt8} {b : UInt8} (h : s[0]? = some b) (hb : b ≠ 47) : rhPath x s = none := by
  unfold rhPath
  rw [if_pos]
  refine ⟨?_, ?_⟩
  · intro e; rw [e] at h; simp at h
  · rw [h]; intro e; exact hb (Option.some.inj e)
theorem tail_none (x : Src) {s : List UInt8} {b : UInt8} (h : s[0]? = some b) (h1 : b ≠ 58) (h2 : b ≠ 47) : rhT (x, s) = none := by
  unfold rhT rhPort
  simp only
  rw [if_neg (by rw [h]; intro e; exact h1 (Option.some.inj e)), Option.bind_some]
  exact path_none x h h2
theorem nmGo_le : ∀ (l : List UInt8) (g : Bool), nmGo l g ≤ l.length
  | [], g => by simp [nmGo]
  | b :: l, g => by
    unfold nmGo
    have h1 := nmGo_le l true
    have h2 := nmGo_le l false
    split
    · simp; omega
    · split
      · simp; omega
      · omega
/-- what ends a name -/
def EndT (T : List UInt8) : Prop := T = [] ∨ ∃ b r, T = b :: r ∧ (b = 58 ∨ b = 47)
theorem nmGo_end {T : List UInt8} (hT : EndT T) (g : Bool) : nmGo T g = 0 := by
  rcases hT with rfl | ⟨b, r, rfl, rfl | rfl⟩
  · rfl
  · unfold nmGo
    rw [if_neg (by decide), if_neg (fun h => absurd h.1 (by decide))]
  · unfold nmGo
    rw [if_neg (by decide), if_neg (fun h => absurd h.1 (by decide))]
theorem nmGo_cat {T : List UInt8} (hT : EndT T) : ∀ (M : List UInt8) (g : Bool), nmGo (M ++ T) g = nmGo M g
  | [], g => by rw [List.nil_append, nmGo_end hT]; rfl
  | b :: M, g => by
    rw [List.cons_append]
    unfold nmGo
    rw [nmGo_cat hT M true, nmGo_cat hT M false]
def okG (g : Bool) (t : List UInt8) : Bool := if g = true then ((Ks.partsAt 46 t).headD []).all (plainB [45, 95]) && (Ks.partsAt 46 t).tail.all (madeB (plainB [45, 95])) else (Ks.partsAt 46 t).all (madeB (plainB [45, 95]))
theorem tsuf_cons (b c : UInt8) (N : List UInt8) : Lib.trimSuffix (b :: c :: N) [46] = b :: Lib.trimSuffix (c :: N) [46] := by
  rcases List.eq_nil_or_concat (c :: N) with h | ⟨l, d, h⟩
  · cases h
  · rw [List.concat_eq_append] at h
    rw [h, ← List.cons_append]
    by_cases hd : d = 46
    · subst hd; rw [tsuf_snoc, tsuf_snoc]
    · rw [tsuf_ne _ hd, tsuf_ne _ hd]; rfl
theorem parts_cons {b : UInt8} (t : List UInt8) (h : b ≠ 46) : Ks.partsAt 46 (b :: t) = (b :: (Ks.partsAt 46 t).headD []) :: (Ks.partsAt 46 t).tail := by
  rw [Ks.partsAt, if_neg h]
theorem parts_dot (t : List UInt8) : Ks.partsAt 46 (46 :: t) = [] :: Ks.partsAt 46 t := by rw [Ks.partsAt, if_pos rfl]
theorem okG_plain {b : UInt8} (t : List UInt8) (g : Bool) (h : plainB [45, 95] b = true) : okG g (b :: t) = okG true t := by
  have hb : b ≠ 46 := by intro e; rw [e] at h; exact absurd h (by decide)
  unfold okG
  rw [parts_cons t hb]
  cases g
  · simp only [Bool.false_eq_true, if_false, if_true, List.all_cons, madeB, h, Bool.true_and, List.isEmpty_cons, Bool.not_false, Bool.and_true]
  · simp only [if_true, List.headD_cons, List.tail_cons, List.all_cons, h, Bool.true_and]
theorem okG_bad {b : UInt8} (t : List UInt8) (g : Bool) (h : plainB [45, 95] b = false) (hb : b ≠ 46) : okG g (b :: t) = false := by
  unfold okG
  rw [parts_cons t hb]
  cases g
  · simp only [Bool.false_eq_true, if_false, List.all_cons, madeB, h, Bool.false_and]
  · simp only [if_true, List.headD_cons, List.tail_cons, List.all_cons, h, Bool.false_and]
theorem okG_dot (t : List UInt8) (g : Bool) : okG g (46 :: t) = (g && okG false t) := by
  unfold okG
  rw [parts_dot]
  cases g
  · simp [madeB]
  · simp
theorem tsuf_one (b : UInt8) : Lib.trimSuffix [b] [46] = if b = 46 then [] else [b] := by
  by_cases h : b = 46
  · subst h; rfl
  · rw [if_neg h]; exact tsuf_ne [] h
theorem okG_nil (g : Bool) : okG g [] = g := by cases g <;> rfl
theorem name_go : ∀ (N : List UInt8) (g : Bool), (g = true ∨ N ≠ []) → (nmGo N g = N.length ↔ okG g (Lib.trimSuffix N [46]) = true)
  | [], g, h => by
    rcases h with rfl | h
    · exact ⟨fun _ => rfl, fun _ => rfl⟩
    · exact absurd rfl h
  | [b], g, _ => by
    unfold nmGo
    rw [tsuf_one]
    by_cases hb : b = 46
    · subst hb
      rw [if_neg (by decide), if_pos rfl, okG_nil]
      cases g <;> simp [nmGo]
    · rw [if_neg hb]
      cases hp : plainB [45, 95] b with
      | true => rw [if_pos rfl, okG_plain _ _ hp, okG_nil]; simp [nmGo]
      | false => rw [if_neg (by simp), if_neg (fun h => hb h.1), okG_bad _ _ hp hb]; simp
  | b :: c :: N, g, _ => by
    have i1 := name_go (c :: N) true (.inl rfl)
    have i2 := name_go (c :: N) false (.inr (by simp))
    rw [tsuf_cons]
    generalize Lib.trimSuffix (c :: N) [46] = t at *
    rw [nmGo]
    by_cases hb : b = 46
    · subst hb
      rw [if_neg (by decide), okG_dot]
      cases g
      · rw [if_neg (fun h => by cases h.2)]; simp
      · rw [if_pos ⟨rfl, rfl⟩, Bool.true_and, ← i2]; simp
    · cases hp : plainB [45, 95] b with
      | true => rw [if_pos rfl, okG_plain _ _ hp, ← i1]; simp
      | false => rw [if_neg (by simp), if_neg (fun h => hb h.1), okG_bad _ _ hp hb]; simp
theorem name_ok (N : List UInt8) : nameOK N = true ↔ (nmGo N false = N.length ∧ N ≠ []) := by
  have h : nameOK N = okG false (Lib.trimSuffix N [46]) := by unfold nameOK okG; simp
  rw [h]
  by_cases hN : N = []
  · subst hN
    constructor
    · intro h; cases h
    · rintro ⟨_, h⟩; exact absurd rfl h
  · rw [← name_go N false (.inr hN)]
    exact ⟨fun h => ⟨h, hN⟩, fun h => h.1⟩
theorem end_dot {T : List UInt8} (hT : EndT T) : T[0]? ≠ some 46 ∧ T[0]? ≠ some 42 := by
  rcases hT with rfl | ⟨b, r, rfl, rfl | rfl⟩ <;> exact ⟨by simp, by simp⟩
theorem name_step (f : List UInt8 → Src) (N T : List UInt8) (hN : ∀ b ∈ N, b ≠ 58 ∧ b ≠ 47) (hT : EndT T) :
    (if rname (N ++ T) < 0 then none else some (f ((N ++ T).take (rname (N ++ T)).toNat), (N ++ T).drop (rname (N ++ T)).toNat)).bind rhT = if nameOK N = true then rhT (f N, T) else none := by
  have hg := nmGo_cat hT N false
  by_cases hok : nameOK N = true
  · obtain ⟨h1, h2⟩ := (name_ok N).1 hok
    have hr : rname (N ++ T) = (N.length : Nat) := by
      unfold rname
      rw [hg, h1, if_neg]
      rintro (h | h)
      · exact h2 (List.eq_nil_of_length_eq_zero h)
      · rw [List.getElem?_append_right (Nat.le_refl _), Nat.sub_self] at h
        exact (end_dot hT).1 h
    rw [if_pos hok, hr, if_neg (by omega), Option.bind_some]
    simp
  · rw [if_neg hok]
    by_cases hlt : rname (N ++ T) < 0
    · rw [if_pos hlt]; rfl
    · rw [if_neg hlt, Option.bind_some]
      have hr : rname (N ++ T) = (nmGo N false : Nat) := by
        unfold rname at hlt ⊢
        rw [hg] at hlt ⊢
        split at hlt
        · omega
        · rename_i hh; rw [if_neg hh]
      have hne : N ≠ [] := by
        intro e
        subst e
        unfold rname at hlt
        rw [hg] at hlt
        exact hlt (by rw [if_pos (.inl rfl)]; omega)
      have hl := nmGo_le N false
      have hl2 : nmGo N false < N.length := by
        rcases Nat.lt_or_ge (nmGo N false) N.length with h | h
        · exact h
        · exact absurd ((name_ok N).2 ⟨by omega, hne⟩) hok
      rw [hr]
      generalize nmGo N false = n at *
      have hb : ((N ++ T).drop n)[0]? = some N[n] := by
        rw [List.getElem?_drop, Nat.add_zero, List.getElem?_append_left hl2, getT hl2]
      obtain ⟨h1, h2⟩ := hN N[n] (List.getElem_mem hl2)
      exact tail_none _ hb h1 h2
theorem bad_any (s : List UInt8) : Lib.containsAny s [59, 44, 63, 35] = s.any badB := by
  unfold Lib.containsAny
  induction s with
  | nil => rfl
  | cons b s ih =>
    rw [List.any_cons, ← ih, show Lib.indexAny (b :: s) [59, 44, 63, 35] = if ([59, 44, 63, 35] : List UInt8).contains b then 0 else if Lib.indexAny s [59, 44, 63, 35] == -1 then -1 else Lib.indexAny s [59, 44, 63, 35] + 1 from rfl]
    have hge := Lib.indexAny_ge [59, 44, 63, 35] s
    show _ = (([59, 44, 63, 35] : List UInt8).contains b || _)
    cases h : ([59, 44, 63, 35] : List UInt8).contains b with
    | true => rw [if_pos rfl]; rfl
    | false =>
      rw [if_neg (by simp), Bool.false_or]
      split
      · rename_i h1
        rw [beq_iff_eq.1 h1]
      · rename_i h1
        have h1 : Lib.indexAny s [59, 44, 63, 35] ≠ -1 := fun e => h1 (beq_iff_eq.2 e)
        rw [decide_eq_true (show 0 ≤ Lib.indexAny s [59, 44, 63, 35] + 1 by omega), decide_eq_true (show 0 ≤ Lib.indexAny s [59, 44, 63, 35] by omega)]
theorem path_end (x : Src) {R : List UInt8} (h : R = [] ∨ ∃ r, R = 47 :: r) : rhPath x R = if R.any badB = true then none else some { x with path := mkB R } := by
  unfold rhPath
  rw [if_neg]
  rintro ⟨h1, h2⟩
  rcases h with rfl | ⟨r, rfl⟩
  · exact h1 rfl
  · exact h2 rfl
theorem while_part {p : UInt8 → Bool} : ∀ {D : List UInt8} (R : List UInt8), D.all p = false → ∃ (h : (D.takeWhile p).length < D.length), (D ++ R).takeWhile p = D.takeWhile p ∧ p D[(D.takeWhile p).length] = false
  | [], R, h => by simp at h
  | b :: D, R, h => by
    rw [List.all_cons] at h
    cases hb : p b with
    | false =>
      have e1 : (b :: D).takeWhile p = [] := by rw [List.takeWhile_cons, hb]; rfl
      have e2 : (b :: D ++ R).takeWhile p = [] := by rw [List.cons_append, List.takeWhile_cons, hb]; rfl
      refine ⟨by rw [e1]; simp, by rw [e1, e2], ?_⟩
      simp only [e1, List.length_nil, List.getElem_cons_zero, hb]
    | true =>
      rw [hb, Bool.true_and] at h
      obtain ⟨h1, h2, h3⟩ := while_part R h
      have e1 : (b :: D).takeWhile p = b :: D.takeWhile p := by rw [List.takeWhile_cons, hb]; rfl
      have e2 : (b :: D ++ R).takeWhile p = b :: (D ++ R).takeWhile p := by rw [List.cons_append, List.takeWhile_cons, hb]; rfl
      refine ⟨by rw [e1]; simpa using h1, by rw [e1, e2, h2], ?_⟩
      simp only [e1, List.length_cons, List.getElem_cons_succ, h3]
/-- the port and the path -/
theorem port_eq (x : Src) (T : List UInt8) (hT : EndT T) :
    rhT (x, T) = if ((portR { x with path := mkB (cutP T [47]).2 } (cutP T [47]).1).2 && !Lib.containsAny (cutP T [47]).2 [59, 44, 63, 35]) = true then some (portR { x with path := mkB (cutP T [47]).2 } (cutP T [47]).1).1 else none := by
  rw [bad_any]
  rcases hT with rfl | ⟨b, r, rfl, rfl | rfl⟩
  · rfl
  · have hc1 : (cutP (58 :: r) [47]).1 = 58 :: (cutP r [47]).1 := rfl
    have hc2 : (cutP (58 :: r) [47]).2 = (cutP r [47]).2 := rfl
    rw [hc1, hc2]
    have hcat := cutP_cat r [47]
    have hD : ∀ b ∈ (cutP r [47]).1, b ≠ 47 := by
      intro b hb e
      have := mem_while hb
      rw [e] at this; exact absurd this (by decide)
    have hR : (cutP r [47]).2 = [] ∨ ∃ q, (cutP r [47]).2 = 47 :: q := by
      cases hq : (cutP r [47]).2 with
      | nil => exact .inl rfl
      | cons c q =>
        right
        have h1 : (r.dropWhile fun b => !([47] : List UInt8).contains b).head? = some c := by
          show ((cutP r [47]).2).head? = _
          rw [hq]; rfl
        have h2 := List.head?_dropWhile_not (fun b => !([47] : List UInt8).contains b) r
        rw [h1] at h2
        simp at h2
        exact ⟨q, by rw [h2]⟩
    generalize (cutP r [47]).1 = D at *
    generalize (cutP r [47]).2 = R at *
    have htp : Lib.trimPrefix (58 :: D) [58] = D := by
      unfold Lib.trimPrefix Lib.hasPrefix
      simp [List.isPrefixOf]
    have hRd : ∀ b, R.head? = some b → digB b = false := by
      intro b hb
      rcases hR with rfl | ⟨q, rfl⟩
      · cases hb
      · cases hb; decide
    have hP : ∀ y : Src, rhPath y R = if R.any badB = true then none else some { y with path := mkB R } := fun y => path_end y hR
    unfold rhT rhPort portR
    simp only
    rw [if_pos (show (58 :: r)[0]? = some 58 from rfl), show (58 :: r).drop 1 = r from rfl, ← hcat, if_neg (show ¬ (58 :: D) = [] by simp), htp]
    by_cases hall : D.all digB = true
    · rw [take_while_cat hall hRd]
      have hno42 : ¬ D = [42] := by intro e; rw [e] at hall; exact absurd hall (by decide)
      rw [if_neg hno42]
      by_cases hD0 : D = []
      · subst hD0
        have h42 : ¬ (([] : List UInt8) ++ R)[0]? = some 42 := by
          rw [List.nil_append]
          rcases hR with rfl | ⟨q, rfl⟩ <;> simp
        rw [if_neg (show ¬ 5 < ([] : List UInt8).length by simp), if_pos (show ([] : List UInt8).length = 0 from rfl), if_neg h42, show (madeB digB ([] : List UInt8) && decide (([] : List UInt8).length ≤ 5)) = false from rfl]
        simp
      · have hmade : madeB digB D = true := by
          unfold madeB; rw [hall]
          cases D with
          | nil => exact absurd rfl hD0
          | cons _ _ => rfl
        rw [hmade, Bool.true_and]
        have hlen : ¬ D.length = 0 := fun e => hD0 (List.eq_nil_of_length_eq_zero e)
        by_cases h5 : 5 < D.length
        · rw [if_pos h5, decide_eq_false (by omega), if_neg (by simp)]
          simp
        · rw [if_neg h5, if_neg hlen, decide_eq_true (show D.length ≤ 5 by omega), if_pos rfl, List.drop_left]
          by_cases h6 : 65535 < decV D
          · rw [if_pos h6]
            simp only [decide_eq_false (show ¬ decV D ≤ 65535 by omega)]
            simp
          · rw [if_neg h6, Option.bind_some, hP]
            simp only [decide_eq_true (show decV D ≤ 65535 by omega), Bool.true_and]
            cases R.any badB <;> rfl
    · have hall : D.all digB = false := Bool.eq_false_iff.2 hall
      obtain ⟨h1, h2, h3⟩ := while_part R hall
      rw [h2]
      by_cases h42 : D = [42]
      · subst h42
        rw [if_pos rfl]
        rw [if_neg (by decide), if_pos (by decide), if_pos (by rfl), Option.bind_some]
        show rhPath _ R = _
        rw [hP]
        cases R.any badB <;> rfl
      · rw [if_neg h42]
        have hmade : madeB digB D = false := by unfold madeB; rw [hall]; rfl
        simp only [hmade, Bool.false_and, Bool.false_eq_true, if_false]
        generalize hk : D.takeWhile digB = K at *
        by_cases h5 : 5 < K.length
        · rw [if_pos h5]; rfl
        · rw [if_neg h5]
          have hat : ((D ++ R).drop K.length)[0]? = some D[K.length] := by
            rw [List.getElem?_drop, Nat.add_zero, List.getElem?_append_left (by omega)]
            exact getT h1
          have hne := hD _ (List.getElem_mem h1)
          by_cases h0 : K.length = 0
          · rw [if_pos h0]
            by_cases hs : (D ++ R)[0]? = some 42
            · rw [if_pos hs, Option.bind_some]
              cases D with
              | nil => simp at h1
              | cons c D1 =>
                have hc : c = 42 := by simpa using hs
                subst hc
                cases D1 with
                | nil => exact absurd rfl h42
                | cons e D2 =>
                  exact path_none _ (b := e) rfl (hD e (by simp))
            · rw [if_neg hs]; rfl
          · rw [if_neg h0]
            by_cases h6 : 65535 < decV K
            · rw [if_pos h6]; rfl
            · rw [if_neg h6, Option.bind_some]
              exact path_none _ hat hne
  · have hc1 : (cutP (47 :: r) [47]).1 = [] := rfl
    have hc2 : (cutP (47 :: r) [47]).2 = 47 :: r := rfl
    rw [hc1, hc2]
    unfold rhT rhPort portR
    simp only
    rw [if_neg (by simp), Option.bind_some]
    simp only [if_true]
    rw [path_end x (.inr ⟨r, rfl⟩), Bool.true_and]
    cases (47 :: r).any badB <;> rfl
theorem cut_end (s : List UInt8) : (∀ b ∈ (cutP s [58, 47]).1, b ≠ 58 ∧ b ≠ 47) ∧ EndT (cutP s [58, 47]).2 := by
  constructor
  · intro b hb
    have := mem_while hb
    constructor
    · intro e; rw [e] at this; exact absurd this (by decide)
    · intro e; rw [e] at this; exact absurd this (by decide)
  · cases hq : (cutP s [58, 47]).2 with
    | nil => exact .inl rfl
    | cons c q =>
      right
      have h1 : (s.dropWhile fun b => !([58, 47] : List UInt8).contains b).head? = some c := by
        show ((cutP s [58, 47]).2).head? = _
        rw [hq]; rfl
      have h2 := List.head?_dropWhile_not (fun b => !([58, 47] : List UInt8).contains b) s
      rw [h1] at h2
      simp at h2
      exact ⟨c, q, rfl, Classical.or_iff_not_imp_left.2 h2⟩
/-- portR leaves all but the port -/
theorem port_kind (x : Src) (s : List UInt8) (k : Nat) : portR { x with kind := k } s = ({ (portR x s).1 with kind := k }, (portR x s).2) := by
  unfold portR
  split
  · rfl
  · split
    · rfl
    · split <;> rfl
theorem rest_eq (x : Src) (s : List UInt8) (hx : x.text = ⟨#[]⟩) (hw : x.wild = false) : (rhN { x with kind := 5 } s).bind rhT = (if (restR x s).2 = true then some (restR x s).1 else none).map fun y => { y with kind := 5 } := by
  have hcat := cutP_cat s [58, 47]
  obtain ⟨hN, hT⟩ := cut_end s
  unfold restR
  simp only
  generalize (cutP s [58, 47]).1 = N at *
  generalize (cutP s [58, 47]).2 = T at *
  have hE := end_dot hT
  have hPort : ∀ y z : Src, z = { y with path := mkB (cutP T [47]).2 } → rhT ({ y with kind := 5 }, T) = (if ((portR z (cutP T [47]).1).2 && !Lib.containsAny (cutP T [47]).2 [59, 44, 63, 35]) = true then some (portR z (cutP T [47]).1).1 else none).map fun y => { y with kind := 5 } := by
    intro y z hz
    subst hz
    rw [port_eq _ T hT]
    have := port_kind { y with path := mkB (cutP T [47]).2 } (cutP T [47]).1 5
    rw [show (portR { ({ y with kind := 5 } : Src) with path := mkB (cutP T [47]).2 } (cutP T [47]).1) = _ from this]
    simp only
    split <;> rfl
  subst hcat
  have hfin : ∀ (f : List UInt8 → Src) (M : List UInt8) (y : Src), (∀ b ∈ M, b ≠ 58 ∧ b ≠ 47) → f M = { y with kind := 5 } →
      (if rname (M ++ T) < 0 then none else some (f ((M ++ T).take (rname (M ++ T)).toNat), (M ++ T).drop (rname (M ++ T)).toNat)).bind rhT = (if (if nameOK M = true then ((portR { y with path := mkB (cutP T [47]).2 } (cutP T [47]).1).1, (portR { y with path := mkB (cutP T [47]).2 } (cutP T [47]).1).2 && !Lib.containsAny (cutP T [47]).2 [59, 44, 63, 35]) else ({ y with path := mkB (cutP T [47]).2 }, false)).2 = true then some (if nameOK M = true then ((portR { y with path := mkB (cutP T [47]).2 } (cutP T [47]).1).1, (portR { y with path := mkB (cutP T [47]).2 } (cutP T [47]).1).2 && !Lib.containsAny (cutP T [47]).2 [59, 44, 63, 35]) else ({ y with path := mkB (cutP T [47]).2 }, false)).1 else none).map fun y => { y with kind := 5 } := by
    intro f M y hM hf
    rw [name_step f M T hM hT]
    by_cases hok : nameOK M = true
    · rw [if_pos hok, if_pos hok, hf]
      exact hPort y _ rfl
    · rw [if_neg hok, if_neg hok]
      simp
  cases N with
  | nil =>
    rw [List.nil_append]
    unfold rhN
    rw [if_neg hE.2]
    exact hfin (fun l => { x with kind := 5, text := lowS (mkB l) }) [] { x with wild := false, text := lowS (mkB []) } (by simp) (by rw [← hw])
  | cons b N1 =>
    by_cases hb : b = 42
    · subst hb
      unfold rhN
      rw [if_pos (show (42 :: N1 ++ T)[0]? = some 42 from rfl)]
      cases N1 with
      | nil =>
        have h1 : ¬ ([42] ++ T)[1]? = some 46 := hE.1
        rw [if_neg h1, Option.bind_some]
        have hn : ∀ y : Src, nameR y [42] = ({ y with wild := true }, true) := fun y => if_pos rfl
        rw [hn]
        simp only [if_true]
        have ht : lowS (mkB []) = x.text := by rw [hx]; rfl
        rw [ht]
        exact hPort { x with wild := true } _ rfl
      | cons c N2 =>
        by_cases hc : c = 46
        · subst hc
          rw [if_pos (show (42 :: 46 :: N2 ++ T)[1]? = some 46 from rfl)]
          have hp : Lib.hasPrefix (42 :: 46 :: N2) [42, 46] = true := by simp [Lib.hasPrefix, List.isPrefixOf]
          have ht : Lib.trimPrefix (42 :: 46 :: N2) [42, 46] = N2 := by unfold Lib.trimPrefix; rw [hp]; rfl
          have hn : ∀ y : Src, nameR y (42 :: 46 :: N2) = ({ y with wild := true, text := lowS (mkB N2) }, nameOK N2) := fun y => by
            unfold nameR
            rw [if_neg (by simp), hp, ht]; rfl
          rw [hn]
          exact hfin (fun l => { x with kind := 5, wild := true, text := lowS (mkB l) }) N2 { x with wild := true, text := lowS (mkB N2) } (fun b hb => hN b (by simp [hb])) rfl
        · have h1 : ¬ (42 :: c :: N2 ++ T)[1]? = some 46 := fun e => hc (Option.some.inj e)
          rw [if_neg h1, Option.bind_some]
          have hcN := hN c (by simp)
          rw [tail_none _ (b := c) rfl hcN.1 hcN.2]
          have hp : Lib.hasPrefix (42 :: c :: N2) [42, 46] = false := by
            unfold Lib.hasPrefix
            simp only [List.isPrefixOf]
            rw [beq_eq_false_iff_ne.2 (fun e => hc e.symm)]; rfl
          have ht : Lib.trimPrefix (42 :: c :: N2) [42, 46] = 42 :: c :: N2 := by unfold Lib.trimPrefix; rw [hp]; rfl
          have hbad : nameOK (42 :: c :: N2) = false := by
            rw [Bool.eq_false_iff]
            intro h
            have := ((name_ok _).1 h).1
            rw [show nmGo (42 :: c :: N2) false = 0 from by unfold nmGo; rw [if_neg (by decide), if_neg (fun h => absurd h.1 (by decide))]] at this
            simp at this
          have hn : ∀ y : Src, (nameR y (42 :: c :: N2)).2 = false := fun y => by
            unfold nameR
            rw [if_neg (by simp), ht]; exact hbad
          rw [hn]
          simp
    · unfold rhN
      rw [if_neg (show ¬ (b :: N1 ++ T)[0]? = some 42 from fun e => hb (Option.some.inj e))]
      have hp : Lib.hasPrefix (b :: N1) [42, 46] = false := by
        unfold Lib.hasPrefix
        simp only [List.isPrefixOf]
        rw [beq_eq_false_iff_ne.2 (fun e => hb e.symm)]; rfl
      have ht : Lib.trimPrefix (b :: N1) [42, 46] = b :: N1 := by unfold Lib.trimPrefix; rw [hp]; rfl
      have hn : ∀ y : Src, nameR y (b :: N1) = ({ y with wild := false, text := lowS (mkB (b :: N1)) }, nameOK (b :: N1)) := fun y => by
        unfold nameR
        rw [if_neg (fun e => hb (by injection e)), hp, ht]; rfl
      rw [hn]
      exact hfin (fun l => { x with kind := 5, text := lowS (mkB l) }) (b :: N1) { x with wild := false, text := lowS (mkB (b :: N1)) } hN (by rw [← hw])
theorem rHost_eq (s : List UInt8) : rHost s = rdK s 4 := by
  unfold rHost rdK rdAt
  simp only
  unfold hostP hostR
  rw [rhX_eq]
  refine rest_eq _ _ ?_ ?_
  · unfold hostX; simp only; split <;> rfl
  · unfold hostX; simp only; split <;> rfl
/-- the document's reading of a source expression -/
def rsrcD (s : List UInt8) : Option Src := (quotP s).or ((rschP s).or (rHost s))
theorem rsrcD_eq (s : List UInt8) : rsrcD s = sourceD s := by
  unfold rsrcD sourceD
  rw [quotP_eq, rschP_eq, rHost_eq]
  simp only [List.findSome?_cons, List.findSome?_nil]
  cases rdK s 0 <;> cases rdK s 1 <;> cases rdK s 2 <;> cases rdK s 3 <;> cases rdK s 4 <;> rfl
end Go.Proofs.YtempmmkdppelaaaGreatDoor

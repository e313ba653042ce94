import Derived.Test.YtempmmkdppelaaaGreatDoorW6M
/-
  What is read is right, and its text is read as it: mathematics.
-/
namespace Go.Proofs.YtempmmkdppelaaaGreatDoor
open Go.RowKit
/-- a word -/
def Wd (w : List UInt8) : Prop := w ≠ [] ∧ ∀ b ∈ w, blankB b = false ∧ b ≠ 59
theorem containsAny_iff (m : List UInt8) : ∀ s : List UInt8, Lib.containsAny s m = true ↔ ∃ b ∈ s, m.contains b = true
  | [] => by simp [Lib.containsAny, Lib.indexAny]
  | b :: s => by
    have ih := containsAny_iff m s
    have hg := Lib.indexAny_ge m s
    unfold Lib.containsAny at ih ⊢
    rw [decide_eq_true_iff] at ih ⊢
    unfold Lib.indexAny
    cases hb : m.contains b with
    | true => simp only [if_true]; exact ⟨fun _ => ⟨b, by simp, hb⟩, fun _ => by decide⟩
    | false =>
      simp only [Bool.false_eq_true, if_false, List.mem_cons, exists_eq_or_imp, hb, false_or]
      rw [← ih]
      by_cases h1 : Lib.indexAny s m = -1
      · rw [h1]; simp
      · have : ((Lib.indexAny s m == -1) = false) := beq_eq_false_iff_ne.2 h1
        simp only [this, Bool.false_eq_true, if_false]
        omega
theorem marks_iff (b : UInt8) : blankS.data.toList.contains b = true ↔ (blankB b = true ∨ b = 59) := by
  unfold blankS blankB blanksL
  simp only [List.contains_cons, List.contains_nil, Bool.or_false, Bool.or_eq_true, beq_iff_eq]
  constructor
  · rintro (h | h | h | h | h | h) <;> simp [h]
  · rintro ((h | h | h | h | h) | h) <;> simp [h]
theorem word_iff (s : ByteArray) : wordB s = true ↔ Wd s.data.toList := by
  unfold wordB Wd
  rw [Bool.and_eq_true, ByteArray.toList_eq]
  constructor
  · rintro ⟨h1, h2⟩
    refine ⟨(fun h => by rw [h] at h1; exact absurd h1 (by decide)), fun b hb => ?_⟩
    have hn : ¬ (blankS.data.toList.contains b = true) := fun h => by
      rw [(containsAny_iff _ _).2 ⟨b, hb, h⟩] at h2; cases h2
    rw [marks_iff, not_or] at hn
    exact ⟨by simpa using hn.1, hn.2⟩
  · rintro ⟨h1, h2⟩
    have h3 : (!s.data.toList.isEmpty) = true := by
      cases hs : s.data.toList with
      | nil => exact absurd hs h1
      | cons _ _ => rfl
    refine ⟨h3, ?_⟩
    cases hc : Lib.containsAny s.data.toList blankS.data.toList with
    | false => rfl
    | true =>
      obtain ⟨b, hb, h⟩ := (containsAny_iff _ _).1 hc
      rcases (marks_iff b).1 h with h | h
      · rw [(h2 b hb).1] at h; cases h
      · exact absurd h (h2 b hb).2
theorem low_iff {c : UInt8} (hc : letB c = false) (b : UInt8) : M.low b = c ↔ b = c := by
  by_cases h : 65 ≤ b.toNat ∧ b.toNat ≤ 90
  · have h3 : (M.low b).toNat = b.toNat + 32 := by rw [low_nat, if_pos h]
    have hl : ∀ x : UInt8, ((97 ≤ x.toNat ∧ x.toNat ≤ 122) ∨ (65 ≤ x.toNat ∧ x.toNat ≤ 90)) → letB x = true := fun x hx => by
      unfold letB; simp only [Bool.or_eq_true, Bool.and_eq_true, decide_eq_true_iff]; exact hx
    constructor
    · intro e; subst e; rw [hl _ (.inl (by omega))] at hc; cases hc
    · intro e; subst e; rw [hl _ (.inr h)] at hc; cases hc
  · have : M.low b = b := by unfold M.low; rw [if_neg h]
    rw [this]
theorem blank_low (b : UInt8) : blankB (M.low b) = blankB b := by
  rw [Bool.eq_iff_iff]
  unfold blankB blanksL
  simp only [List.contains_cons, List.contains_nil, Bool.or_false, Bool.or_eq_true, beq_iff_eq]
  rw [low_iff (by decide), low_iff (by decide), low_iff (by decide), low_iff (by decide), low_iff (by decide)]
theorem low_low (b : UInt8) : M.low (M.low b) = M.low b := by
  apply UInt8.toNat_inj.1
  rw [low_nat, low_nat]
  split <;> (try split) <;> omega
theorem lowS_list (t : ByteArray) : (lowS t).data.toList = t.data.toList.map M.low := by unfold lowS; simp
theorem wd_low {w : ByteArray} (h : Wd w.data.toList) : Wd (lowS w).data.toList := by
  rw [lowS_list]
  refine ⟨by simpa using h.1, fun b hb => ?_⟩
  obtain ⟨a, ha, rfl⟩ := List.mem_map.1 hb
  refine ⟨by rw [blank_low]; exact (h.2 a ha).1, fun e => ?_⟩
  exact (h.2 a ha).2 ((low_iff (by decide) a).1 e)
theorem lowS_lowS (t : ByteArray) : lowS (lowS t) = lowS t := by
  apply ByteArray.ext; apply Array.toList_inj.1
  rw [lowS_list, lowS_list, List.map_map]
  apply List.map_congr_left
  intro b _; exact low_low b
theorem parts_no (c : UInt8) : ∀ s : List UInt8, ∀ p ∈ Ks.partsAt c s, c ∉ p
  | [], p, hp => by simp [Ks.partsAt] at hp; subst hp; simp
  | b :: s, p, hp => by
    have ih := parts_no c s
    rw [Ks.partsAt] at hp
    split at hp
    · rcases List.mem_cons.1 hp with rfl | hp
      · simp
      · exact ih p hp
    · rename_i hb
      rcases List.mem_cons.1 hp with rfl | hp
      · intro hc
        rcases List.mem_cons.1 hc with h | h
        · exact hb h.symm
        · cases hq : Ks.partsAt c s with
          | nil => exact absurd hq (Ks.partsAt_ne c s)
          | cons q qs => rw [hq] at h; exact ih q (by rw [hq]; simp) h
      · exact ih p (List.mem_of_mem_tail hp)
theorem words_wd {p : List UInt8} (hp : (59 : UInt8) ∉ p) : ∀ w ∈ wordsL p, Wd w.data.toList := by
  intro w hw
  rw [words_eq] at hw
  obtain ⟨x, hx, rfl⟩ := List.mem_map.1 hw
  obtain ⟨h1, h2⟩ := wB_word p [] (by simp) x hx
  refine ⟨by simpa using h1, fun b hb => ?_⟩
  have hb' : b ∈ x := by simpa using hb
  refine ⟨(h2 b hb').1, fun e => ?_⟩
  rcases (h2 b hb').2 with h | h
  · simp at h
  · subst e; exact hp h
theorem right_mk {n : ByteArray} {vs : List ByteArray} (h1 : Wd n.data.toList) (h2 : lowS n = n) (h3 : vs.length ≤ 64) (h4 : ∀ v ∈ vs, Wd v.data.toList) : rightD (n, vs) = true := by
  unfold rightD
  simp only
  rw [(word_iff n).2 h1, h2, decide_eq_true h3]
  have : vs.any (fun s => !wordB s) = false := by
    rw [List.any_eq_false]
    intro v hv
    rw [(word_iff v).2 (h4 v hv)]; simp
  rw [this]; simp
theorem right_of {x : Dir} (h : rightD x = true) : Wd x.1.data.toList ∧ lowS x.1 = x.1 ∧ x.2.length ≤ 64 ∧ ∀ v ∈ x.2, Wd v.data.toList := by
  unfold rightD at h
  simp only [Bool.and_eq_true] at h
  obtain ⟨⟨⟨h1, h2⟩, h3⟩, h4⟩ := h
  refine ⟨(word_iff _).1 h1, toList_inj (beq_iff_eq.1 h2), of_decide_eq_true h3, fun v hv => ?_⟩
  have h4' : x.2.any (fun s => !wordB s) = false := by simpa using h4
  rw [List.any_eq_false] at h4'
  have := h4' v hv
  exact (word_iff v).1 (by simpa using this)
theorem okP_snoc {l : List Dir} {d : Dir} (h : okP l) (hr : rightD d = true) (hn : l.any (isD d.1) = false) (hl : l.length < 64) : okP (l ++ [d]) := by
  refine ⟨by rw [List.length_append]; simp; omega, fun j x hx => ?_⟩
  by_cases hj : j < l.length
  · rw [List.getElem?_append_left hj] at hx
    rw [List.take_append_of_le_length (by omega)]
    exact h.2 j x hx
  · have hj2 : j = l.length := by
      have := (List.getElem?_eq_some_iff.1 hx).1
      rw [List.length_append] at this; simp at this; omega
    subst hj2
    rw [List.getElem?_append_right (Nat.le_refl _)] at hx
    simp at hx; subst hx
    rw [List.take_append_of_le_length (Nat.le_refl _), List.take_length]
    exact ⟨hr, hn⟩
theorem okP_nil : okP [] := ⟨by simp, fun j x hx => by simp at hx⟩
theorem stepD_ok {st : Option (List Dir)} {p : List UInt8} (hp : (59 : UInt8) ∉ p) (h : ∀ l, st = some l → okP l) : ∀ l, stepD st p = some l → okP l := by
  intro l hl
  unfold stepD at hl
  cases st with
  | none => cases hl
  | some l0 =>
    have h0 := h l0 rfl
    have hw := words_wd hp
    simp only at hl
    split at hl
    · cases hl; exact h0
    · rename_i a vs hws
      rw [hws] at hw
      split at hl
      · cases hl; exact h0
      · rename_i hany
        split at hl
        · cases hl
        · rename_i hno
          cases hl
          have hl0 := h0.1
          exact okP_snoc h0 (right_mk (wd_low (hw a (by simp))) (lowS_lowS a) (by omega) (fun v hv => hw v (by simp [hv]))) (by simpa using hany) (by omega)
theorem parseP_ok {s : ByteArray} {l : List Dir} (h : parseP s = .ok l) : okP l := by
  unfold parseP at h
  split at h
  · cases h
  · split at h
    · cases h
    · rename_i l' hp; cases h
      unfold parseD partsD at hp
      have hno := parts_no 59 s.data.toList
      revert hp hno
      generalize Ks.partsAt 59 s.data.toList = ps
      suffices ∀ (ps : List (List UInt8)) (st : Option (List Dir)), (∀ p ∈ ps, (59 : UInt8) ∉ p) → (∀ l, st = some l → okP l) → ∀ l, ps.foldl stepD st = some l → okP l from
        fun hp hno => this ps (some []) hno (fun l hl => by cases hl; exact okP_nil) _ hp
      intro ps
      induction ps with
      | nil => exact fun st _ h => h
      | cons p ps ih => exact fun st hno h => ih _ (fun q hq => hno q (by simp [hq])) (stepD_ok (hno p (by simp)) h)
theorem vals_wB : ∀ (vs : List ByteArray) (w : List UInt8), w ≠ [] → (∀ v ∈ vs, Wd v.data.toList) → wB w (vs.flatMap fun v => 32 :: v.data.toList) = w :: vs.map (fun v => v.data.toList)
  | [], w, hw, _ => by rw [List.flatMap_nil, wB, if_neg hw]; rfl
  | v :: vs, w, hw, h => by
    have hv := h v (by simp)
    rw [List.flatMap_cons, List.cons_append, wB_blank _ _ _ (by decide) hw, wB_app _ _ _ (fun b hb => (hv.2 b hb).1), List.nil_append, vals_wB vs _ hv.1 fun x hx => h x (by simp [hx])]
    rfl
theorem dir_wB {d : Dir} (h : rightD d = true) : wB [] (dirT d) = d.1.data.toList :: d.2.map fun v => v.data.toList := by
  obtain ⟨h1, _, _, h4⟩ := right_of h
  unfold dirT
  rw [wB_app _ _ _ (fun b hb => (h1.2 b hb).1), List.nil_append, vals_wB _ _ h1.1 h4]
theorem dir_words {d : Dir} (h : rightD d = true) (b : Bool) : wordsL (if b then 32 :: dirT d else dirT d) = d.1 :: d.2 := by
  have e : wB [] (if b then 32 :: dirT d else dirT d) = wB [] (dirT d) := by
    cases b with
    | true => exact wB_skip _ _ (by decide)
    | false => rfl
  rw [words_eq, e, dir_wB h, List.map_cons, List.map_map]
  congr 1
  conv => rhs; rw [← List.map_id d.2]
  apply List.map_congr_left
  intro v _; rfl
theorem step_dir {acc : List Dir} {d : Dir} (h : rightD d = true) (hn : acc.any (isD d.1) = false) (hl : acc.length < 64) (b : Bool) : stepD (some acc) (if b then 32 :: dirT d else dirT d) = some (acc ++ [d]) := by
  obtain ⟨_, h2, h3, _⟩ := right_of h
  unfold stepD
  simp only
  rw [dir_words h b]
  simp only [h2, hn, Bool.false_eq_true, if_false]
  rw [if_neg (by omega)]
theorem okP_at {acc rest : List Dir} {d : Dir} (h : okP (acc ++ d :: rest)) : rightD d = true ∧ acc.any (isD d.1) = false ∧ acc.length < 64 := by
  have h1 := h.1
  rw [List.length_append] at h1
  have h2 := h.2 acc.length d (by rw [List.getElem?_append_right (Nat.le_refl _)]; simp)
  rw [List.take_append_of_le_length (Nat.le_refl _), List.take_length] at h2
  exact ⟨h2.1, h2.2, by simp at h1; omega⟩
theorem fold_dirs : ∀ (rest acc : List Dir), okP (acc ++ rest) → (rest.map fun x => 32 :: dirT x).foldl stepD (some acc) = some (acc ++ rest)
  | [], acc, _ => by simp
  | d :: rest, acc, h => by
    obtain ⟨h1, h2, h3⟩ := okP_at h
    rw [List.map_cons, List.foldl_cons, show stepD (some acc) (32 :: dirT d) = some (acc ++ [d]) from step_dir h1 h2 h3 true]
    rw [fold_dirs rest (acc ++ [d]) (by rw [List.append_assoc]; exact h), List.append_assoc]; rfl
theorem dirT_no {d : Dir} (h : rightD d = true) : (59 : UInt8) ∉ dirT d := by
  obtain ⟨h1, _, _, h4⟩ := right_of h
  unfold dirT
  intro hm
  rcases List.mem_append.1 hm with hm | hm
  · exact (h1.2 _ hm).2 rfl
  · obtain ⟨v, hv, hb⟩ := List.mem_flatMap.1 hm
    rcases List.mem_cons.1 hb with hb | hb
    · exact absurd hb (by decide)
    · exact ((h4 v hv).2 _ hb).2 rfl
theorem parts_txt : ∀ (l : List Dir) (p : List UInt8), (59 : UInt8) ∉ p → (∀ d ∈ l, rightD d = true) → Ks.partsAt 59 (p ++ l.flatMap (fun x => [59, 32] ++ dirT x)) = p :: l.map fun x => 32 :: dirT x
  | [], p, hp, _ => by rw [List.flatMap_nil, List.append_nil, Ks.partsAt_miss _ _ hp]; rfl
  | d :: l, p, hp, h => by
    have hd := dirT_no (h d (by simp))
    rw [List.flatMap_cons, show p ++ ([59, 32] ++ dirT d ++ l.flatMap (fun x => [59, 32] ++ dirT x)) = p ++ 59 :: ((32 :: dirT d) ++ l.flatMap (fun x => [59, 32] ++ dirT x)) by simp, Ks.partsAt_hit _ _ _ hp,
      parts_txt l (32 :: dirT d) (by intro hm; rcases List.mem_cons.1 hm with h' | h'
                                     · exact absurd h' (by decide)
                                     · exact hd h') fun x hx => h x (by simp [hx])]
    rfl
theorem okP_right {l : List Dir} (h : okP l) : ∀ d ∈ l, rightD d = true := by
  intro d hd
  obtain ⟨i, hi, rfl⟩ := List.getElem_of_mem hd
  exact (h.2 i _ (getT hi)).1
theorem parse_txtL {l : List Dir} (h : okP l) : parseD (txtL l) = some l := by
  unfold parseD partsD
  cases l with
  | nil =>
    show [([] : List UInt8)].foldl stepD (some []) = some []
    unfold List.foldl stepD
    simp only
    rw [words_eq]; rfl
  | cons d l =>
    have hr := okP_right h
    show (Ks.partsAt 59 (dirT d ++ l.flatMap (fun x => [59, 32] ++ dirT x))).foldl stepD (some []) = some (d :: l)
    rw [parts_txt l _ (dirT_no (hr d (by simp))) fun x hx => hr x (by simp [hx]), List.foldl_cons,
      show stepD (some []) (dirT d) = some ([] ++ [d]) from step_dir (hr d (by simp)) rfl (by decide) false]
    exact fold_dirs l [d] h
theorem back_text {l : List Dir} {t : ByteArray} (h : okP l) (ht : t.data.toList = txtL l) (hz : t.size ≤ 4096) : parseP t = .ok l := by
  unfold parseP
  rw [if_neg (by omega), ht, parse_txtL h]
theorem back_more {d : Dir} {l : List Dir} {t m u : ByteArray} (h : okP (d :: l)) (ht : t.data.toList = txtL (d :: l)) (hm : (59 : UInt8) ∉ m.data.toList) (hu : u.data.toList = t.data.toList ++ 59 :: (32 :: (d.1.data.toList ++ 32 :: m.data.toList))) (hz : u.size ≤ 4096) : parseP u = .ok (d :: l) := by
  have hr := okP_right h d (by simp)
  obtain ⟨h1, h2, _, _⟩ := right_of hr
  have hq : (59 : UInt8) ∉ 32 :: (d.1.data.toList ++ 32 :: m.data.toList) := by
    intro hc
    rcases List.mem_cons.1 hc with hc | hc
    · exact absurd hc (by decide)
    · rcases List.mem_append.1 hc with hc | hc
      · exact (h1.2 _ hc).2 rfl
      · rcases List.mem_cons.1 hc with hc | hc
        · exact absurd hc (by decide)
        · exact hm hc
  have hw : wordsL (32 :: (d.1.data.toList ++ 32 :: m.data.toList)) = d.1 :: (wB [] m.data.toList).map fun x => (⟨x.toArray⟩ : ByteArray) := by
    rw [words_eq, wB_skip _ _ (by decide), wB_app _ _ _ (fun b hb => (h1.2 b hb).1), List.nil_append, wB_blank _ _ _ (by decide) h1.1, List.map_cons]
  have hp := parse_txtL h
  unfold parseP
  rw [if_neg (by omega), hu, ht]
  unfold parseD partsD at hp ⊢
  rw [partsAt_join, List.foldl_append, hp, Ks.partsAt_miss _ _ hq, List.foldl_cons, List.foldl_nil]
  unfold stepD
  simp only
  rw [hw]
  simp only [h2]
  rw [if_pos (by rw [List.any_cons]; simp [isD])]
end Go.Proofs.YtempmmkdppelaaaGreatDoor
/-
  What Parse answers, in one form; bytes that are not there.
-/
namespace Go.Proofs.YtempmmkdppelaaaGreatDoor
open Go.RowKit
def paC (st : Except Nat (List Dir)) : Nat := match st with | .error c => c | .ok _ => 0
def paL (st : Except Nat (List Dir)) : List Dir := match st with | .error _ => [] | .ok l => l
def paR (rep : Bool) (st : Except Nat (List Dir)) : Bool := match st with | .error _ => false | .ok _ => rep
theorem parse_dirs (s : ByteArray) (rep : Bool) (st : Except Nat (List Dir)) (hst : parseP s = st) (hm : s.size ≤ 281474976710656) (w : World) :
    Calls Tryz.prog 10 #[.string s, .bool rep] w fun e w' => (∃ q c, e = .returned (.tuple #[.agg #[.slice q (paL st).length c, .bool (paR rep st)], .int .i64 (paC st)]) ∧ Dirs w' (.slice q (paL st).length c) (paL st)) ∧ Below w.heap.size w w' := by
  refine (parse_is s rep hm w).mono ?_
  rintro e w' ⟨h, hb⟩
  refine ⟨?_, hb⟩
  rw [hst] at h
  cases st with
  | error c => exact ⟨none, 0, h, none, 0, rfl, Nat.le_refl _, fun i x hx => by simp [paL] at hx⟩
  | ok l' =>
    obtain ⟨v, rs, he, ho, hl, _⟩ := h
    have hp := ho.dirs
    rw [← hl] at hp
    have hp' := hp
    obtain ⟨p, cap, hv', _, _⟩ := hp
    subst hv'
    exact ⟨p, cap, he, hp'⟩
theorem parse_err {s : ByteArray} {c : Nat} (h : parseP s = .error c) : c ≠ 0 := by
  unfold parseP at h
  split at h
  · cases h; decide
  · split at h
    · cases h; decide
    · cases h
theorem notin_take {c : UInt8} {l : List UInt8} {k : Nat} {b : UInt8} (h : c ∉ l.take k) (hb : l[k]? = some b) (hne : ¬ b = c) : c ∉ l.take (k + 1) := by
  obtain ⟨hk, rfl⟩ := List.getElem?_eq_some_iff.1 hb
  rw [List.take_succ_eq_append_getElem hk]
  intro hm
  rcases List.mem_append.1 hm with hm | hm
  · exact h hm
  · rw [List.mem_singleton] at hm; exact hne hm.symm
theorem byte_eq {x c : UInt8} (n : Int) (hn : ((c.toNat : Nat) : Int) = n) (h : x = c) : (((x.toNat : Nat) : Int) == n) = true := by subst h; simp [hn]
theorem byte_ne {x c : UInt8} (n : Int) (hn : ((c.toNat : Nat) : Int) = n) (h : ¬ x = c) : (((x.toNat : Nat) : Int) == n) = false := beq_eq_false_iff_ne.2 fun e => h (UInt8.toNat_inj.1 (by omega))
end Go.Proofs.YtempmmkdppelaaaGreatDoor
/-
  The document's blank, word, Lower.
-/
namespace Go.Proofs.YtempmmkdppelaaaGreatDoor
open Go.RowKit
set_option maxHeartbeats 2000000 in
theorem rblank_is (b : UInt8) (r : Bool) (hr : blankB b = r) (w : World) : Calls Tryz.prog 59 #[.int .u8 b.toNat] w fun e w' => e = .returned (.bool r) ∧ w' = w := by
  unfold blankB blanksL at hr
  simp only [List.contains_cons, List.contains_nil, Bool.or_false] at hr
  by_cases h1 : b = 9
  · have g1 := byte_eq 9 rfl h1
    have hr2 : r = true := by rw [← hr, h1]; rfl
    subst hr2
    clear hr h1
    go_enter Tryz.func59, Tryz.ntmps59
    go_wp2
    go_ret
    exact ⟨rfl, rfl⟩
  have g1 := byte_ne 9 rfl h1
  by_cases h2 : b = 10
  · have g2 := byte_eq 10 rfl h2
    have hr2 : r = true := by rw [← hr, h2]; rfl
    subst hr2
    clear hr h1 h2
    go_enter Tryz.func59, Tryz.ntmps59
    go_wp2
    go_ret
    exact ⟨rfl, rfl⟩
  have g2 := byte_ne 10 rfl h2
  by_cases h3 : b = 12
  · have g3 := byte_eq 12 rfl h3
    have hr2 : r = true := by rw [← hr, h3]; rfl
    subst hr2
    clear hr h1 h2 h3
    go_enter Tryz.func59, Tryz.ntmps59
    go_wp2
    go_ret
    exact ⟨rfl, rfl⟩
  have g3 := byte_ne 12 rfl h3
  by_cases h4 : b = 13
  · have g4 := byte_eq 13 rfl h4
    have hr2 : r = true := by rw [← hr, h4]; rfl
    subst hr2
    clear hr h1 h2 h3 h4
    go_enter Tryz.func59, Tryz.ntmps59
    go_wp2
    go_ret
    exact ⟨rfl, rfl⟩
  have g4 := byte_ne 13 rfl h4
  have hr2 : r = ((b.toNat : Int) == 32) := by
    rw [← hr, Bool.eq_iff_iff]
    simp only [Bool.or_eq_true, beq_iff_eq, h1, h2, h3, h4, false_or]
    constructor
    · intro e; rw [e]; rfl
    · intro e; exact UInt8.toNat_inj.1 (show b.toNat = (32 : UInt8).toNat by have : (32 : UInt8).toNat = 32 := rfl; omega)
  subst hr2
  clear hr h1 h2 h3 h4
  go_enter Tryz.func59, Tryz.ntmps59
  go_wp2
  go_ret
  exact ⟨rfl, rfl⟩
theorem wordB_no {s : ByteArray} {k : Nat} (hk : k < s.size) (h : blankB s[k] = true ∨ s[k] = 59) : wordB s = false := by
  cases hw : wordB s with
  | false => rfl
  | true =>
    have := ((word_iff s).1 hw).2 s[k] (by
      have : s.data.toList[k]'(by rw [Ks.len_list]; exact hk) = s[k] := rfl
      rw [← this]; exact List.getElem_mem _)
    rcases h with h | h
    · rw [this.1] at h; cases h
    · exact absurd h this.2
set_option maxHeartbeats 1000000 in
set_option maxRecDepth 100000 in
theorem rword_is (s : ByteArray) (hs : s.size ≤ 281474976710656) (r : Bool) (hr : wordB s = r) (w : World) : Calls Tryz.prog 48 #[.string s] w fun e w' => e = .returned (.bool r) ∧ w' = w := by
  have HR := Lib.hid hr
  clear hr
  go_enter Tryz.func48, Tryz.ntmps48
  go_wp2_with fail
  go_loopw [3] (fun i wr => ∃ k : Nat, k ≤ s.size ∧ i = .int .i64 k ∧ Hid (∀ (j : Nat) b, j < k → s.data.toList[j]? = some b → blankB b = false ∧ b ≠ 59) ∧ wr = w) (fun i _ => s.size - (intOf i).toNat)
  case atStart => exact ⟨0, by omega, rfl, Lib.hid (fun j b hj => by omega), rfl⟩
  case round =>
    obtain ⟨k, hk, rfl, HE, rfl⟩ := hrel
    by_cases hlt : k < s.size
    · have i1 : (k : Int) < (s.size : Int) := by omega
      have hbk : s.data.toList[k]? = some s[k] := by rw [List.getElem?_eq_getElem (by rw [Ks.len_list]; exact hlt)]; rfl
      obtain ⟨x, hx⟩ : ∃ x, blankB s[k] = x := ⟨_, rfl⟩
      have HB := Lib.hid (fun W : World => rblank_is s[k] x hx W)
      cases x with
      | true =>
        have HF := Lib.hid (show r = false by rw [← HR.out]; exact wordB_no hlt (.inl hx))
        clear hx hbk
        go_wp2_with (go_at_call 59; refine (HB.out _).mono ?_; rintro e w1 ⟨rfl, rfl⟩)
        go_ret
        exact ⟨ret_bool HF.out.symm, rfl⟩
      | false =>
        by_cases h59 : s[k] = 59
        · have g := byte_eq 59 rfl h59
          have HF := Lib.hid (show r = false by rw [← HR.out]; exact wordB_no hlt (.inr h59))
          clear hx hbk h59
          go_wp2_with (go_at_call 59; refine (HB.out _).mono ?_; rintro e w1 ⟨rfl, rfl⟩)
          go_ret
          exact ⟨ret_bool HF.out.symm, rfl⟩
        · have g := byte_ne 59 rfl h59
          have HT := Lib.hid (show ∀ (j : Nat) b, j < k + 1 → s.data.toList[j]? = some b → blankB b = false ∧ b ≠ 59 from fun j b hj hb => by
            by_cases hjk : j = k
            · subst hjk; rw [hbk] at hb; cases hb; exact ⟨hx, h59⟩
            · exact HE.out j b (by omega) hb)
          clear hx hbk h59 HE
          go_wp2_with (go_at_call 59; refine (HB.out _).mono ?_; rintro e w1 ⟨rfl, rfl⟩)
          go_roundw
          case rel => exact ⟨k + 1, by omega, by go_num, HT, trivial⟩
          case measure => simp [intOf]; omega
    · have HE2 := Lib.hid (show s.toList.isEmpty = !r from by
        rw [← HR.out, ByteArray.toList_eq]
        cases hw : wordB s with
        | true =>
          have := ((word_iff s).1 hw).1
          cases hs : s.data.toList with
          | nil => exact absurd hs this
          | cons _ _ => rfl
        | false =>
          cases hs : s.data.toList with
          | nil => rfl
          | cons a t =>
            refine absurd ((word_iff s).2 ⟨by rw [hs]; simp, fun b hb => ?_⟩) (by rw [hw]; simp)
            obtain ⟨j, hj, rfl⟩ := List.getElem_of_mem hb
            exact HE.out j _ (by rw [Ks.len_list] at hj; omega) (getT hj))
      clear HE
      go_wp2_with fail
      go_ret
      exact ⟨ret_bool (by rw [HE2.out]; simp), rfl⟩
end Go.Proofs.YtempmmkdppelaaaGreatDoor

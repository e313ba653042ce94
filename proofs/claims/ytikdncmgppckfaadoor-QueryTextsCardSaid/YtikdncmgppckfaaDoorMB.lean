import Derived.Test.YtikdncmgppckfaaDoorF9
import Derived.Test.YtikdncmgppckfaaDoorPctEnc
import Derived.Lib.CountLaws
/-
  Mathematics of a form that is written and read again: a text that is written is read as its scalar text; a list's text has its pairs.
-/
namespace Go.Proofs.YtikdncmgppckfaaDoor
open Go.RowKit
theorem rpl_hit (old new : List UInt8) (h : old ≠ []) (t : List UInt8) : rpl old new (old ++ t) = new ++ rpl old new t := by
  have hi : Lib.index (old ++ t) old = ((0 : Nat) : Int) := Lib.index_first (Nat.zero_le _) (by unfold Lib.occAt; simp) (fun j hj => by omega)
  have hc := Lib.count_hit h hi
  rw [Nat.zero_add, List.drop_left] at hc
  unfold rpl
  rw [hc, Nat.add_comm, Lib.replaceK_hit _ _ _ _ 0 hi, Nat.zero_add, List.drop_left]
  rfl
theorem rpl_miss (old new : List UInt8) (h : old ≠ []) (c : UInt8) (t : List UInt8) (hp : old.isPrefixOf (c :: t) = false) : rpl old new (c :: t) = c :: rpl old new t := by
  have he : Lib.index (c :: t) old = if Lib.index t old == -1 then -1 else Lib.index t old + 1 := by rw [Lib.index, if_neg (by rw [hp]; simp)]
  have hg := Lib.index_ge t old
  by_cases hm : Lib.index t old = -1
  · have h1 : Lib.index (c :: t) old = -1 := by rw [he, hm]; rfl
    unfold rpl
    rw [Lib.count_miss h1, Lib.count_miss hm]
    rfl
  · obtain ⟨i, hi⟩ : ∃ i : Nat, Lib.index t old = i := ⟨(Lib.index t old).toNat, by omega⟩
    have h1 : Lib.index (c :: t) old = ((i + 1 : Nat) : Int) := by
      rw [he, if_neg (by simpa using hm), hi]; rfl
    have c1 := Lib.count_hit h h1
    have c2 := Lib.count_hit h hi
    have hd : (c :: t).drop (i + 1 + old.length) = t.drop (i + old.length) := by rw [show i + 1 + old.length = (i + old.length) + 1 by omega, List.drop_succ_cons]
    rw [hd] at c1
    unfold rpl
    rw [c1, c2, Nat.add_comm, Lib.replaceK_hit _ _ _ _ _ h1, Lib.replaceK_hit _ _ _ _ _ hi, hd]
    simp
theorem rpl_nil (old new : List UInt8) (h : old ≠ []) : rpl old new [] = [] := by
  unfold rpl
  have : Lib.index [] old = -1 := by
    cases old with
    | nil => exact absurd rfl h
    | cons a b => rfl
  rw [Lib.count_miss this]; rfl
/-- a byte, as the form writes it -/
def wr1 (b : UInt8) : List UInt8 := if b = 32 then [43] else M.enc1 8 b
def rd1 (b : UInt8) : List UInt8 := if b = 32 then [32] else M.enc1 8 b
theorem enc8_all : ∀ n, n < 256 → (let e := M.enc1 8 (UInt8.ofNat n); (e == [UInt8.ofNat n] && UInt8.ofNat n != 37 && UInt8.ofNat n != 43 && UInt8.ofNat n != 32 && UInt8.ofNat n != 38 && UInt8.ofNat n != 61) || (match e with
  | [a, h, l] => a == 37 && h != 37 && l != 37 && h != 43 && l != 43 && h != 38 && l != 38 && h != 61 && l != 61 && h != 32 && l != 32 && ((h == 50 && l == 48) == (UInt8.ofNat n == 32))
  | _ => false)) = true := by decide +kernel
theorem enc8 (b : UInt8) : (M.enc1 8 b = [b] ∧ b ≠ 37 ∧ b ≠ 43 ∧ b ≠ 32 ∧ b ≠ 38 ∧ b ≠ 61) ∨ ∃ h l, M.enc1 8 b = [37, h, l] ∧ h ≠ 37 ∧ l ≠ 37 ∧ h ≠ 43 ∧ l ≠ 43 ∧ h ≠ 38 ∧ l ≠ 38 ∧ h ≠ 61 ∧ l ≠ 61 ∧ ((h = 50 ∧ l = 48) ↔ b = 32) := by
  have h := enc8_all b.toNat b.toNat_lt
  have hb : UInt8.ofNat b.toNat = b := UInt8.ofNat_toNat
  rw [hb] at h
  simp only [Bool.or_eq_true, Bool.and_eq_true, beq_iff_eq, bne_iff_ne] at h
  rcases h with h | h
  · exact .inl ⟨h.1.1.1.1.1, h.1.1.1.1.2, h.1.1.1.2, h.1.1.2, h.1.2, h.2⟩
  · split at h
    · rename_i a x y e
      simp only [Bool.and_eq_true, beq_iff_eq, bne_iff_ne] at h
      obtain ⟨⟨⟨⟨⟨⟨⟨⟨⟨⟨⟨h1, h2⟩, h3⟩, h4⟩, h5⟩, h6⟩, h7⟩, h8⟩, h9⟩, _⟩, _⟩, hz⟩ := h
      refine .inr ⟨x, y, by rw [e, h1], h2, h3, h4, h5, h6, h7, h8, h9, ?_⟩
      constructor
      · rintro ⟨rfl, rfl⟩
        simpa using hz
      · intro h
        subst h
        simpa using hz
    · cases h
theorem pre_false {a c : UInt8} {r t : List UInt8} (h : a ≠ c) : (a :: r).isPrefixOf (c :: t) = false := by
  simp only [List.isPrefixOf, Bool.and_eq_false_iff, beq_eq_false_iff_ne]
  exact .inl h
theorem wr_flat (S : List UInt8) : rpl [37, 50, 48] [43] (M.enc 8 S) = S.flatMap wr1 := by
  induction S with
  | nil => exact rpl_nil _ _ (by simp)
  | cons b S ih =>
    have e : M.enc 8 (b :: S) = M.enc1 8 b ++ M.enc 8 S := rfl
    rw [e, List.flatMap_cons, ← ih]
    rcases enc8 b with ⟨h, h37, h43, h32, _, _⟩ | ⟨h, l, h1, h2, h3, _, _, _, _, _, _, hz⟩
    · unfold wr1
      rw [if_neg h32, h]
      exact rpl_miss _ _ (by simp) _ _ (pre_false (Ne.symm h37))
    · by_cases hb : b = 32
      · obtain ⟨rfl, rfl⟩ := hz.2 hb
        unfold wr1
        rw [if_pos hb, h1]
        exact rpl_hit [37, 50, 48] [43] (by simp) _
      · unfold wr1
        rw [if_neg hb, h1]
        have hn : ¬ (h = 50 ∧ l = 48) := fun e => hb (hz.1 e)
        show rpl _ _ (37 :: h :: l :: _) = 37 :: h :: l :: _
        have hp : ([37, 50, 48] : List UInt8).isPrefixOf (37 :: h :: l :: M.enc 8 S) = false := by
          simp only [List.isPrefixOf, beq_self_eq_true, Bool.true_and]
          cases hx : ((50 : UInt8) == h) with
          | false => rfl
          | true =>
            cases hy : ((48 : UInt8) == l) with
            | false => rfl
            | true => exact absurd ⟨(beq_iff_eq.1 hx).symm, (beq_iff_eq.1 hy).symm⟩ hn
        refine (rpl_miss _ _ (by simp) _ _ hp).trans ?_
        rw [rpl_miss _ _ (by simp) _ _ (pre_false (Ne.symm h2)), rpl_miss _ _ (by simp) _ _ (pre_false (Ne.symm h3))]
        rfl
theorem rd_flat (S : List UInt8) : rpl [43] [32] (S.flatMap wr1) = S.flatMap rd1 := by
  induction S with
  | nil => exact rpl_nil _ _ (by simp)
  | cons b S ih =>
    rw [List.flatMap_cons, List.flatMap_cons, ← ih]
    by_cases hb : b = 32
    · unfold wr1 rd1
      rw [if_pos hb, if_pos hb]
      exact rpl_hit [43] [32] (by simp) _
    · unfold wr1 rd1
      rw [if_neg hb, if_neg hb]
      rcases enc8 b with ⟨h, _, h43, _, _, _⟩ | ⟨h, l, h1, _, _, h4, h5, _⟩
      · rw [h]; exact rpl_miss _ _ (by simp) _ _ (pre_false (Ne.symm h43))
      · rw [h1]
        show rpl _ _ (37 :: h :: l :: _) = 37 :: h :: l :: _
        rw [rpl_miss _ _ (by simp) _ _ (pre_false (by decide)), rpl_miss _ _ (by simp) _ _ (pre_false (Ne.symm h4)), rpl_miss _ _ (by simp) _ _ (pre_false (Ne.symm h5))]
        rfl
theorem escL_ne {c : UInt8} {T : List UInt8} (h : c ≠ 37) : M.escL (c :: T) = none := by
  match T with
  | [] => rfl
  | [_] => rfl
  | _ :: _ :: _ => simp only [M.escL]; rw [if_neg (fun e => h e.1)]
theorem dec_flat (S : List UInt8) : M.dec (S.flatMap rd1) = S := by
  induction S with
  | nil => rfl
  | cons b S ih =>
    rw [List.flatMap_cons]
    by_cases hb : b = 32
    · have e2 : rd1 b = [32] := by unfold rd1; rw [if_pos hb]
      rw [e2]
      show M.dec (32 :: S.flatMap rd1) = _
      rw [M.dec_none (escL_ne (by decide)), hb, ih]
    · have hd := M.dec_enc_sign 8 (by decide) [b]
      have e1 : M.enc 8 [b] = M.enc1 8 b := by simp [M.enc]
      rw [e1] at hd
      have e2 : rd1 b = M.enc1 8 b := by unfold rd1; rw [if_neg hb]
      rw [e2]
      rcases enc8 b with ⟨h, h37, _⟩ | ⟨h, l, h1, _⟩
      · rw [h]
        show M.dec (b :: S.flatMap rd1) = _
        rw [M.dec_none (escL_ne h37), ih]
      · rw [h1] at hd ⊢
        show M.dec (37 :: h :: l :: S.flatMap rd1) = _
        by_cases hh : (37 : UInt8) = 37 ∧ M.hexv h.toNat < 16 ∧ M.hexv l.toNat < 16
        · rw [M.dec, if_pos hh, M.dec_nil] at hd
          rw [M.dec, if_pos hh, ih]
          rw [List.cons.injEq] at hd
          rw [hd.1]
        · exfalso
          rw [M.dec, if_neg hh] at hd
          have := congrArg List.length hd
          simp [M.dec] at this
theorem rd_wr (l : List UInt8) : rdT (wrT l) = U.scal l := by
  unfold rdT wrT
  rw [wr_flat, rd_flat, dec_flat, U.scal_scal]
theorem wr_no (S : List UInt8) (c : UInt8) (hc : c = 38 ∨ c = 61) : c ∉ S.flatMap wr1 := by
  intro h
  obtain ⟨b, _, hb⟩ := List.mem_flatMap.1 h
  unfold wr1 at hb
  split at hb
  · rw [List.mem_singleton] at hb; subst hb; rcases hc with h | h <;> exact absurd h (by decide)
  · rcases enc8 b with ⟨h, _, _, _, h38, h61⟩ | ⟨x, y, h1, _, _, _, _, a1, a2, a3, a4, _⟩
    · rw [h, List.mem_singleton] at hb
      subst hb
      rcases hc with rfl | rfl
      · exact h38 rfl
      · exact h61 rfl
    · rw [h1] at hb
      simp only [List.mem_cons, List.mem_nil_iff, or_false] at hb
      rcases hc with rfl | rfl <;> rcases hb with h | h | h
      · exact absurd h (by decide)
      · exact a1 h.symm
      · exact a2 h.symm
      · exact absurd h (by decide)
      · exact a3 h.symm
      · exact a4 h.symm
theorem wrT_no (l : List UInt8) (c : UInt8) (hc : c = 38 ∨ c = 61) : c ∉ wrT l := by unfold wrT; rw [wr_flat]; exact wr_no _ c hc
/-- a pair as it is read again -/
def scF (x : Fd) : Fd := (⟨(U.scal x.1.data.toList).toArray⟩, ⟨(U.scal x.2.data.toList).toArray⟩)
theorem cut_at (n v : List UInt8) (h : (61 : UInt8) ∉ n) : Lib.cut (n ++ 61 :: v) [61] = (n, v, true) := by
  have hi : Lib.index (n ++ 61 :: v) [61] = ((n.length : Nat) : Int) := by
    refine Lib.index_first (by simp) ?_ ?_
    · unfold Lib.occAt; rw [List.drop_left]; rfl
    · intro j hj
      unfold Lib.occAt
      have e : (n ++ 61 :: v).drop j = n[j] :: (n ++ 61 :: v).drop (j + 1) := by
        rw [List.drop_eq_getElem_cons (by simp; omega), List.getElem_append_left hj]
      rw [e]
      exact pre_false (fun e => h (by rw [e]; exact List.getElem_mem hj))
  unfold Lib.cut
  rw [hi, if_pos (by omega)]
  simp
theorem fd_of (x : Fd) : Ks.fdOf (wrT x.1.data.toList ++ [61] ++ wrT x.2.data.toList) = scF x := by
  unfold Ks.fdOf scF
  rw [List.append_assoc, List.singleton_append, cut_at _ _ (wrT_no _ _ (.inr rfl)), rd_wr, rd_wr]
theorem pa_one (x : Fd) : paL (wrT x.1.data.toList ++ [61] ++ wrT x.2.data.toList) = [scF x] := by
  show Ks.fdsOf (Ks.partsAt 38 _) = _
  rw [Ks.partsAt_miss]
  · unfold Ks.fdsOf
    rw [List.filter_cons, if_pos (by simp), List.filter_nil, List.map_cons, List.map_nil, fd_of]
  · intro h
    rcases List.mem_append.1 h with h | h
    · rcases List.mem_append.1 h with h | h
      · exact wrT_no _ _ (.inl rfl) h
      · simp at h
    · exact wrT_no _ _ (.inl rfl) h
theorem wrP_none (x : Fd) (acc : List UInt8) : wrP x acc ≠ [] := by
  unfold wrP
  intro h
  simp at h
theorem pa_pr_take (l : List Fd) : ∀ k, k ≤ l.length → paL (prL (l.take k)) = (l.take k).map scF
  | 0, _ => by rw [List.take_zero]; rfl
  | k + 1, h => by
    have ih := pa_pr_take l k (by omega)
    rw [prL_snoc l k (by omega), List.take_succ_eq_append_getElem (by omega : k < l.length), List.map_append, ← ih]
    unfold wrP
    by_cases h0 : prL (l.take k) = []
    · rw [if_pos h0, h0, List.nil_append, pa_one]
      rfl
    · rw [if_neg h0]
      have e : prL (l.take k) ++ [38] ++ wrT l[k].1.data.toList ++ [61] ++ wrT l[k].2.data.toList = prL (l.take k) ++ 38 :: (wrT l[k].1.data.toList ++ [61] ++ wrT l[k].2.data.toList) := by simp
      rw [e, pa_join, pa_one]
      rfl
theorem pa_pr (l : List Fd) : paL (prL l) = l.map scF := by
  have := pa_pr_take l l.length (Nat.le_refl _)
  rw [List.take_length] at this
  exact this
theorem sc_good {x : Fd} (h1 : U.good x.1.data.toList = true) (h2 : U.good x.2.data.toList = true) : scF x = x := by
  unfold scF
  rw [(U.good_iff _).1 h1, (U.good_iff _).1 h2]
theorem pa_good (s : List UInt8) : ∀ x ∈ paL s, scF x = x := by
  intro x hx
  obtain ⟨p, _, rfl⟩ := List.mem_map.1 hx
  exact sc_good (U.good_scal_of _) (U.good_scal_of _)
theorem pa_sc (s : List UInt8) : (paL s).map scF = paL s := (List.map_congr_left (pa_good s)).trans (List.map_id _)
/-- what is written, if it is no longer than a text may be, is read -/
theorem par_pr {l : List Fd} (h1 : l.length ≤ 256) (h2 : (prL l).length ≤ 65536) : parI (prL l) = 0 ∧ parL (prL l) = l.map scF := by
  have e : parI (prL l) = 0 := by
    unfold parI
    rw [if_neg (by omega), pa_pr, List.length_map, if_neg (by omega)]
  exact ⟨e, by unfold parL; rw [if_pos e, pa_pr]⟩
theorem par_sc (s : List UInt8) : (parL s).map scF = parL s := by
  unfold parL
  split
  · exact pa_sc s
  · rfl
end Go.Proofs.YtikdncmgppckfaaDoor

/-
  Mathematics of the document's V6.
-/
import Derived.Test.YtflddokngplgiaaDoorX7M
import Derived.Test.YtflddokngplgiaaDoorM3M
namespace Go.Proofs.YtflddokngplgiaaDoor
def isDec (b : UInt8) : Bool := decide (48 ≤ b.toNat) && decide (b.toNat ≤ 57)
def decF (p : List UInt8) : Nat := p.foldl (fun a b => 10 * a + (b.toNat - 48)) 0
/-- a decimal number as it is written: of at most three digits, with no zero ahead, at most 255 -/
def decB (p : List UInt8) : Option Nat :=
  if p = [] ∨ 3 < p.length ∨ (1 < p.length ∧ p[0]? = some 48) then none
  else if p.all isDec = true then (if decF p ≤ 255 then some (decF p) else none) else none
def strG : List (List UInt8) → Nat → Option Nat
  | [], s => some s
  | p :: r, s => (decB p).bind fun n => strG r (256 * s + n)
/-- four decimal numbers -/
def strictP (l : List UInt8) : Option Nat := if (partsAt 46 l).length = 4 then strG (partsAt 46 l) 0 else none
def c48 (x : Nat) : UInt8 := UInt8.ofNat (48 + x)
theorem dec_back : ∀ k, k < 256 → decB (Lib.decDigits k) = some k := by decide +kernel
theorem dd1 : ∀ x, x < 10 → Lib.decDigits x = [c48 x] := by decide +kernel
theorem dd2 : ∀ x, x < 10 → ∀ y, y < 10 → x ≠ 0 → Lib.decDigits (10 * x + y) = [c48 x, c48 y] := by decide +kernel
theorem dd3 : ∀ x, x < 10 → ∀ y, y < 10 → ∀ z, z < 10 → x ≠ 0 → Lib.decDigits (10 * (10 * x + y) + z) = [c48 x, c48 y, c48 z] := by decide +kernel
theorem dig_c {b : UInt8} (h : isDec b = true) : ∃ x, x < 10 ∧ b = c48 x ∧ b.toNat - 48 = x := by
  unfold isDec at h
  rw [Bool.and_eq_true] at h
  have h1 := of_decide_eq_true h.1
  have h2 := of_decide_eq_true h.2
  refine ⟨b.toNat - 48, by omega, ?_, rfl⟩
  unfold c48
  rw [show 48 + (b.toNat - 48) = b.toNat by omega]
  exact UInt8.ofNat_toNat.symm
theorem c48_zero {x : Nat} (h : x = 0) : c48 x = 48 := by rw [h]; rfl
theorem dec_canon {p : List UInt8} {k : Nat} (h : decB p = some k) : Lib.decDigits k = p ∧ k ≤ 255 := by
  unfold decB at h
  split at h
  · cases h
  rename_i h0
  split at h
  · rename_i ha
    split at h
    · rename_i h255
      cases h
      refine ⟨?_, h255⟩
      match p, h0, ha with
      | [], h0, _ => exact absurd (.inl rfl) h0
      | [a], _, ha =>
        simp only [List.all_cons, List.all_nil, Bool.and_true] at ha
        obtain ⟨x, hx, rfl, e⟩ := dig_c ha
        unfold decF
        simp only [List.foldl_cons, List.foldl_nil, e]
        rw [show 10 * 0 + x = x by omega]
        exact dd1 x hx
      | [a, b], h0, ha =>
        simp only [List.all_cons, List.all_nil, Bool.and_true, Bool.and_eq_true] at ha
        obtain ⟨x, hx, hax, e⟩ := dig_c ha.1
        obtain ⟨y, hy, hby, f⟩ := dig_c ha.2
        have hx0 : x ≠ 0 := fun e0 => h0 (.inr (.inr ⟨by simp, by rw [hax, c48_zero e0]; rfl⟩))
        unfold decF
        simp only [List.foldl_cons, List.foldl_nil, e, f]
        rw [show 10 * (10 * 0 + x) + y = 10 * x + y by omega, hax, hby]
        exact dd2 x hx y hy hx0
      | [a, b, c], h0, ha =>
        simp only [List.all_cons, List.all_nil, Bool.and_true, Bool.and_eq_true] at ha
        obtain ⟨x, hx, hax, e⟩ := dig_c ha.1
        obtain ⟨y, hy, hby, f⟩ := dig_c ha.2.1
        obtain ⟨z, hz, hcz, g⟩ := dig_c ha.2.2
        have hx0 : x ≠ 0 := fun e0 => h0 (.inr (.inr ⟨by simp, by rw [hax, c48_zero e0]; rfl⟩))
        unfold decF
        simp only [List.foldl_cons, List.foldl_nil, e, f, g]
        rw [show 10 * (10 * (10 * 0 + x) + y) + z = 10 * (10 * x + y) + z by omega, hax, hby, hcz]
        exact dd3 x hx y hy z hz hx0
      | a :: b :: c :: d :: r, h0, _ => exact absurd (.inr (.inl (by simp))) h0
    · cases h
  · cases h
theorem join_parts (c : UInt8) : ∀ l : List UInt8, joinC c (partsAt c l) = l
  | [] => rfl
  | b :: r => by
    have ih := join_parts c r
    by_cases h : b = c
    · subst h
      rw [show partsAt b (b :: r) = [] :: partsAt b r from if_pos rfl, joinC_cons b [] _ (partsAt_ne b r), ih]
      rfl
    · rw [partsAt_cons_ne _ h]
      rcases hq : partsAt c r with _ | ⟨p, q⟩
      · exact absurd hq (partsAt_ne c r)
      · rw [hq] at ih
        simp only [List.headD_cons, List.tail_cons]
        cases q with
        | nil => simp only [joinC] at ih ⊢; rw [ih]
        | cons x y => simp only [joinC] at ih ⊢; rw [List.cons_append, ih]
theorem str_some {l : List UInt8} {n : Nat} (h : strictP l = some n) : n < 4294967296 ∧ tv4 n = l := by
  unfold strictP at h
  split at h
  · rename_i h4
    have hj := join_parts 46 l
    rcases hps : partsAt 46 l with _ | ⟨p1, _ | ⟨p2, _ | ⟨p3, _ | ⟨p4, _ | ⟨p5, r⟩⟩⟩⟩⟩ <;> rw [hps] at h4 h hj <;> simp only [List.length_nil, List.length_cons] at h4 <;> try omega
    unfold strG strG strG strG strG at h
    rcases h1 : decB p1 with _ | n1 <;> rw [h1] at h <;> simp only [Option.bind_none, Option.bind_some] at h
    · cases h
    rcases h2 : decB p2 with _ | n2 <;> rw [h2] at h <;> simp only [Option.bind_none, Option.bind_some] at h
    · cases h
    rcases h3 : decB p3 with _ | n3 <;> rw [h3] at h <;> simp only [Option.bind_none, Option.bind_some] at h
    · cases h
    rcases h5 : decB p4 with _ | n4 <;> rw [h5] at h <;> simp only [Option.bind_none, Option.bind_some] at h
    · cases h
    obtain ⟨e1, b1⟩ := dec_canon h1
    obtain ⟨e2, b2⟩ := dec_canon h2
    obtain ⟨e3, b3⟩ := dec_canon h3
    obtain ⟨e4, b4⟩ := dec_canon h5
    have hn := Option.some.inj h
    refine ⟨by omega, ?_⟩
    rw [← hj]
    unfold tv4
    rw [show n / 16777216 = n1 by omega, show n / 65536 % 256 = n2 by omega, show n / 256 % 256 = n3 by omega, show n % 256 = n4 by omega]
    simp only [List.map_cons, List.map_nil, e1, e2, e3, e4]
  · cases h
theorem str_back {n : Nat} (hn : n < 4294967296) : strictP (tv4 n) = some n := by
  unfold strictP
  rw [tv4_parts hn]
  have hb : bs4 n = [Lib.decDigits (n / 16777216), Lib.decDigits (n / 65536 % 256), Lib.decDigits (n / 256 % 256), Lib.decDigits (n % 256)] := rfl
  rw [hb, if_pos (by simp)]
  unfold strG strG strG strG strG
  rw [dec_back _ (by omega), dec_back _ (by omega), dec_back _ (by omega), dec_back _ (by omega)]
  simp only [Option.bind_some]
  congr 1
  omega
/-- what the program asks of it -/
theorem str_mix (l : List UInt8) : (strictP l = none → ∀ n, v4O l = some n → tv4 n ≠ l) ∧ ∀ n, strictP l = some n → v4O l = some n ∧ tv4 n = l ∧ n < 4294967296 := by
  constructor
  · intro h n hv e
    have := str_back (v4O_lt hv)
    rw [e, h] at this; cases this
  · intro n h
    obtain ⟨h1, h2⟩ := str_some h
    exact ⟨by rw [← h2]; exact v4_back h1, h2, h1⟩
theorem partsAt_app (c : UInt8) (b : List UInt8) : ∀ a : List UInt8, partsAt c (a ++ c :: b) = partsAt c a ++ partsAt c b
  | [] => by simp [partsAt]
  | x :: a => by
    have ih := partsAt_app c b a
    rw [List.cons_append]
    by_cases h : x = c
    · subst h; simp only [partsAt, if_true, ih, List.cons_append]
    · rw [partsAt_cons_ne _ h, partsAt_cons_ne _ h, ih]
      rcases hq : partsAt c a with _ | ⟨p, q⟩
      · exact absurd hq (partsAt_ne c a)
      · rfl
def wordsR (ps : List (List UInt8)) : Option (List Nat) := if ps.all (fun p => (hexP p).isSome) = true then some (ps.map hexV) else none
/-- pieces, the last one maybe an address of version 4 -/
def pcsM (l : List UInt8) : Option (List Nat) := if l = [] then some [] else match strictP (lastP 58 l) with
  | some n => (wordsR (partsAt 58 l).dropLast).map (· ++ [n / 65536, n % 65536])
  | none => wordsR (partsAt 58 l)
theorem pcs_words {l : List UInt8} (h : l ≠ []) : pcs l = wordsR (partsAt 58 l) := by unfold pcs wordsR; rw [if_neg h]
theorem words_app (a : List (List UInt8)) (x y : Nat) (hx : x < 65536) (hy : y < 65536) : wordsR (a ++ [hexD x, hexD y]) = (wordsR a).map (· ++ [x, y]) := by
  have h1 := hexP_hexD hx
  have h2 := hexP_hexD hy
  have v1 : hexV (hexD x) = x := by unfold hexV; rw [h1]; rfl
  have v2 : hexV (hexD y) = y := by unfold hexV; rw [h2]; rfl
  unfold wordsR
  rw [List.all_append, List.map_append]
  simp only [List.all_cons, List.all_nil, h1, h2, Option.isSome_some, Bool.and_true, List.map_cons, List.map_nil, v1, v2]
  split <;> rfl
theorem last_split (c : UInt8) (l : List UInt8) : partsAt c l = (partsAt c l).dropLast ++ [lastP c l] := by
  unfold lastP
  rcases List.eq_nil_or_concat (partsAt c l) with h | ⟨a, b, h⟩
  · exact absurd h (partsAt_ne c l)
  · rw [h, List.concat_eq_append]; simp
theorem take_back (X q : List UInt8) : (X ++ q).take ((X ++ q).length - q.length) = X := by simp
theorem parts_no (c : UInt8) : ∀ (l : List UInt8), ∀ p ∈ partsAt c l, c ∉ p
  | [], p, h => by simp [partsAt] at h; simp [h]
  | b :: r, p, h => by
    have ih := parts_no c r
    by_cases hb : b = c
    · subst hb
      rw [show partsAt b (b :: r) = [] :: partsAt b r from if_pos rfl] at h
      rcases List.mem_cons.1 h with rfl | h
      · simp
      · exact ih p h
    · rw [partsAt_cons_ne _ hb] at h
      rcases hq : partsAt c r with _ | ⟨a, q⟩
      · exact absurd hq (partsAt_ne c r)
      · rw [hq] at h ih
        simp only [List.headD_cons, List.tail_cons] at h
        rcases List.mem_cons.1 h with rfl | h
        · intro hc
          rcases List.mem_cons.1 hc with e | e
          · exact hb e.symm
          · exact ih a (by simp) e
        · exact ih p (by simp [h])
theorem pcsM_eq (l : List UInt8) : pcsM l = pcs (mixL l) := by
  obtain ⟨hno, hyes⟩ := str_mix (lastP 58 l)
  unfold pcsM
  by_cases h0 : l = []
  · subst h0
    rw [if_pos rfl]
    have : mixL [] = [] := by
      unfold mixL
      rw [show v4O (lastP 58 []) = none by decide +kernel]
    rw [this]; rfl
  rw [if_neg h0]
  cases hs : strictP (lastP 58 l) with
  | none =>
    simp only
    have hm : mixL l = l := by
      unfold mixL
      cases hv : v4O (lastP 58 l) with
      | none => rfl
      | some n => simp only; rw [if_neg (hno hs n hv)]
    rw [hm, pcs_words h0]
  | some n =>
    obtain ⟨h1, h2, h3⟩ := hyes n hs
    simp only
    have hm : mixL l = l.take (l.length - (lastP 58 l).length) ++ txtP [n / 65536, n % 65536] := by
      unfold mixL
      rw [h1]
      simp only
      rw [if_pos h2]
    have htx : partsAt 58 (txtP [n / 65536, n % 65536]) = [hexD (n / 65536), hexD (n % 65536)] := txt_parts _ (by simp)
    have hne : mixL l ≠ [] := by
      rw [hm]
      intro e
      exact txt_ne [n / 65536, n % 65536] (by simp) (List.append_eq_nil_iff.1 e).2
    rw [pcs_words hne, hm]
    have hsp := last_split 58 l
    have hj := join_parts 58 l
    rw [hsp] at hj
    cases hD : (partsAt 58 l).dropLast with
    | nil =>
      rw [hD] at hj
      have hl : lastP 58 l = l := hj
      rw [hl, Nat.sub_self, List.take_zero, List.nil_append, htx]
      exact (words_app [] _ _ (by omega) (by omega)).symm
    | cons d D =>
      rw [hD] at hj
      have hj2 := joinC_snoc 58 (d :: D) (lastP 58 l) (by simp)
      rw [hj2] at hj
      have htk : l.take (l.length - (lastP 58 l).length) = joinC 58 (d :: D) ++ [58] := by
        have e : (joinC 58 (d :: D) ++ [58]) ++ lastP 58 l = l := by rw [List.append_assoc]; exact hj
        have := take_back (joinC 58 (d :: D) ++ [58]) (lastP 58 l)
        rw [e] at this; exact this
      rw [htk, List.append_assoc, List.singleton_append, partsAt_app, htx]
      have hpd : partsAt 58 (joinC 58 (d :: D)) = d :: D := by
        exact parts_join 58 _ (by simp) fun p hp => parts_no 58 l p (by rw [last_split 58 l, hD]; exact List.mem_append_left _ hp)
      rw [hpd]
      exact (words_app _ _ _ (by omega) (by omega)).symm
/-- how long a text is, told by its parts -/
def lenS (ps : List (List UInt8)) : Nat := (ps.map fun p => p.length + 1).sum
theorem lenS_cons (p : List UInt8) (ps : List (List UInt8)) : lenS (p :: ps) = p.length + 1 + lenS ps := by unfold lenS; rw [List.map_cons, List.sum_cons]
theorem lenS_app : ∀ a b : List (List UInt8), lenS (a ++ b) = lenS a + lenS b
  | [], b => by simp [lenS]
  | p :: a, b => by rw [List.cons_append, lenS_cons, lenS_cons, lenS_app a b]; omega
theorem parts_sum (c : UInt8) : ∀ l : List UInt8, lenS (partsAt c l) = l.length + 1
  | [] => rfl
  | b :: r => by
    have ih := parts_sum c r
    by_cases hb : b = c
    · subst hb
      rw [show partsAt b (b :: r) = [] :: partsAt b r from if_pos rfl, lenS_cons, ih]; simp; omega
    · rw [partsAt_cons_ne _ hb]
      rcases hq : partsAt c r with _ | ⟨a, q⟩
      · exact absurd hq (partsAt_ne c r)
      · rw [hq, lenS_cons] at ih
        simp only [List.headD_cons, List.tail_cons, lenS_cons, List.length_cons]
        omega
theorem hexP_four {p : List UInt8} (h : (hexP p).isSome = true) : p.length ≤ 4 := by
  unfold hexP at h
  split at h
  · assumption
  · cases h
theorem words_bound : ∀ ps : List (List UInt8), ps.all (fun p => (hexP p).isSome) = true → lenS ps ≤ 5 * ps.length
  | [], _ => by simp [lenS]
  | p :: ps, h => by
    rw [List.all_cons, Bool.and_eq_true] at h
    have := words_bound ps h.2
    have := hexP_four h.1
    rw [lenS_cons, List.length_cons]; omega
theorem words_some {ps : List (List UInt8)} {x : List Nat} (h : wordsR ps = some x) : lenS ps ≤ 5 * x.length ∧ x.length = ps.length := by
  unfold wordsR at h
  split at h
  · rename_i ha
    cases h
    rw [List.length_map]
    exact ⟨words_bound ps ha, rfl⟩
  · cases h
theorem pcs_bound {l : List UInt8} {x : List Nat} (h : pcs l = some x) : l.length ≤ 5 * x.length := by
  by_cases h0 : l = []
  · subst h0; simp
  · rw [pcs_words h0] at h
    have h1 := words_some h
    have h2 := parts_sum 58 l
    omega
theorem pcsM_bound {l : List UInt8} {x : List Nat} (h : pcsM l = some x) : l.length ≤ 5 * x.length + 5 := by
  unfold pcsM at h
  split at h
  · rename_i h0; subst h0; simp
  · have h2 := parts_sum 58 l
    split at h
    · rename_i n hs
      obtain ⟨y, hy, rfl⟩ := Option.map_eq_some_iff.1 h
      have h1 := words_some hy
      have h3 := (str_mix (lastP 58 l)).2 n hs
      have h4 := tv4_len h3.2.2
      rw [h3.2.1] at h4
      rw [last_split 58 l, lenS_app, lenS_cons] at h2
      rw [List.length_append]
      have h5 : lenS [] = 0 := rfl
      simp only [List.length_cons, List.length_nil]
      omega
    · have h1 := words_some h
      omega
/-- what the document's V6 reads -/
def refV6 (l : List UInt8) : Option (List Nat) :=
  if (Lib.cut l [58, 58]).2.2 = true then
    match pcs (Lib.cut l [58, 58]).1 with
    | none => none
    | some x => match pcsM (Lib.cut l [58, 58]).2.1 with
      | none => none
      | some y => if x.length + y.length ≤ 7 then some (x ++ List.replicate (8 - x.length - y.length) 0 ++ y) else none
  else match pcsM l with
    | none => none
    | some x => if x.length = 8 then some x else none
theorem cut_sum {l : List UInt8} (h : (Lib.cut l [58, 58]).2.2 = true) : (Lib.cut l [58, 58]).1.length + 2 + (Lib.cut l [58, 58]).2.1.length = l.length := by
  unfold Lib.cut at h ⊢
  split
  · rename_i hi
    have := Lib.index_room l [58, 58] hi
    simp only [List.length_take, List.length_drop, List.length_cons, List.length_nil] at this ⊢
    omega
  · rename_i hi
    rw [if_neg hi] at h; cases h
theorem refV6_eq (l : List UInt8) : refV6 l = v6P l := by
  unfold refV6 v6P
  by_cases h45 : 45 < l.length
  · rw [if_pos h45]
    by_cases hc : (Lib.cut l [58, 58]).2.2 = true
    · rw [if_pos hc]
      have hs := cut_sum hc
      cases hx : pcs (Lib.cut l [58, 58]).1 with
      | none => rfl
      | some x =>
        simp only
        cases hy : pcsM (Lib.cut l [58, 58]).2.1 with
        | none => rfl
        | some y =>
          have h1 := pcs_bound hx
          have h2 := pcsM_bound hy
          simp only
          rw [if_neg (by omega)]
    · rw [if_neg hc]
      cases hx : pcsM l with
      | none => rfl
      | some x =>
        have h2 := pcsM_bound hx
        simp only
        rw [if_neg (by omega)]
  · rw [if_neg h45]
    by_cases hc : (Lib.cut l [58, 58]).2.2 = true
    · rw [if_pos hc, if_pos hc, pcsM_eq]; rfl
    · rw [if_neg hc, if_neg hc, pcsM_eq]
      cases pcs (mixL l) <;> rfl
end Go.Proofs.YtflddokngplgiaaDoor

import Derived.Test.YtikdncmgppckfaaDoorPctM
/-
  Plain mathematics (no program is named here): what is encoded is decoded as the text or as what it is decoded as; by a set without the sign nothing more is encoded; what stands behind one another is encoded by itself. No conditions.
-/
namespace Go.Proofs.YtikdncmgppckfaaDoor.M
theorem hex_free_small : ∀ s, s < 9 → ∀ b, b < 256 → (!(decide (hexv b < 16)) || !(inB s b)) = true := by decide +kernel
theorem hex_free (s b : Nat) (hb : b < 256) (h : hexv b < 16) : inB s b = false := by
  by_cases hs : s < 9
  · have := hex_free_small s hs b hb
    simpa [h] using this
  · unfold inB; rw [if_pos (Or.inr (by omega))]
theorem hexU_hex : ∀ n, n < 16 → (hexv (hexU n).toNat = n) := by decide +kernel
theorem in_alnum (s : Nat) (b : UInt8) (h : hexv b.toNat < 16) : inB s b.toNat = false := hex_free s _ b.toNat_lt h
theorem enc_nil (s : Nat) : enc s [] = [] := rfl
theorem enc_cons (s : Nat) (b : UInt8) (l : List UInt8) : enc s (b :: l) = enc1 s b ++ enc s l := by simp [enc]
theorem enc_app (s : Nat) (a b : List UInt8) : enc s (a ++ b) = enc s a ++ enc s b := by simp [enc]
theorem enc1_in (s : Nat) (b : UInt8) (h : inB s b.toNat = true) : enc1 s b = [37, hexU (b.toNat / 16), hexU (b.toNat % 16)] := by unfold enc1; rw [if_pos h]
theorem enc1_out (s : Nat) (b : UInt8) (h : inB s b.toNat = false) : enc1 s b = [b] := by unfold enc1; rw [if_neg (by rw [h]; simp)]
theorem dec_hex (b : UInt8) (r : List UInt8) : dec (37 :: hexU (b.toNat / 16) :: hexU (b.toNat % 16) :: r) = b :: dec r := by
  have h1 := hexU_hex (b.toNat / 16) (by have := b.toNat_lt; omega)
  have h2 := hexU_hex (b.toNat % 16) (by omega)
  rw [dec, if_pos ⟨rfl, by rw [h1]; have := b.toNat_lt; omega, by rw [h2]; omega⟩, h1, h2]
  congr 1
  apply UInt8.toNat_inj.1
  have := b.toNat_lt
  rw [UInt8.toNat_ofNat', Nat.mod_eq_of_lt (by omega)]; omega
theorem dec_other (b : UInt8) (r : List UInt8) (h : ¬ b = 37) : dec (b :: r) = b :: dec r := by
  apply dec_none
  match r with
  | [] => rfl
  | [d] => rfl
  | x :: y :: r => simp only [escL]; rw [if_neg (fun hh => h hh.1)]
/-- by a set that has the sign, what is encoded is decoded as the text -/
theorem dec_enc_sign (s : Nat) (h37 : inB s 37 = true) (l : List UInt8) : dec (enc s l) = l := by
  induction l with
  | nil => rfl
  | cons b l ih =>
    rw [enc_cons]
    cases hb : inB s b.toNat with
    | true => rw [enc1_in s b hb]; simp only [List.cons_append, List.nil_append]; rw [dec_hex, ih]
    | false =>
      rw [enc1_out s b hb]; simp only [List.cons_append, List.nil_append]
      rw [dec_other b _ (fun e => by rw [e] at hb; have : inB s 37 = false := hb; rw [this] at h37; cases h37), ih]
/-- the head of what is encoded is the head, if it is no byte of the set, else the sign -/
theorem esc_enc_none (s : Nat) (r : List UInt8) (h : escL (37 :: r) = none) : escL (37 :: enc s r) = none := by
  match r, h with
  | [], _ => rfl
  | [d], _ =>
    rw [enc_cons, enc_nil, List.append_nil]
    cases hd : inB s d.toNat with
    | true => rw [enc1_in s d hd]; simp only [escL, true_and]; rw [if_neg (fun hh => by have := hh.1; revert this; decide)]
    | false => rw [enc1_out s d hd]; rfl
  | d :: e :: r, h =>
    simp only [escL, true_and] at h
    by_cases hc : hexv d.toNat < 16 ∧ hexv e.toNat < 16
    · rw [if_pos hc] at h; cases h
    · rw [enc_cons, enc_cons]
      cases hd : inB s d.toNat with
      | true =>
        rw [enc1_in s d hd]; simp only [List.cons_append, List.nil_append, escL, true_and]
        rw [if_neg (fun hh => by have := hh.1; revert this; decide)]
      | false =>
        rw [enc1_out s d hd]
        cases he : inB s e.toNat with
        | true =>
          rw [enc1_in s e he]; simp only [List.cons_append, List.nil_append, escL, true_and]
          rw [if_neg (fun hh => by have := hh.2; revert this; decide)]
        | false =>
          rw [enc1_out s e he]; simp only [List.cons_append, List.nil_append, escL, true_and]
          rw [if_neg hc]
theorem dec_enc_none (s : Nat) (h37 : inB s 37 = false) (n : Nat) : ∀ l : List UInt8, l.length ≤ n → dec (enc s l) = dec l := by
  induction n with
  | zero => intro l hl; have : l = [] := List.eq_nil_of_length_eq_zero (by omega); subst this; rfl
  | succ n ih =>
    intro l hl
    match l, hl with
    | [], _ => rfl
    | b :: l, hl =>
      simp only [List.length_cons] at hl
      by_cases h : b = 37
      · subst h
        rw [enc_cons, enc1_out s 37 h37]; simp only [List.cons_append, List.nil_append]
        cases he : escL (37 :: l) with
        | none => rw [dec_none he, dec_none (esc_enc_none s l he), ih l (by omega)]
        | some v =>
          match l, he, hl with
          | x :: y :: r, he, hl =>
            simp only [escL, true_and] at he
            by_cases hc : hexv x.toNat < 16 ∧ hexv y.toNat < 16
            · rw [enc_cons, enc_cons, enc1_out s x (in_alnum s x hc.1), enc1_out s y (in_alnum s y hc.2)]
              simp only [List.cons_append, List.nil_append]
              rw [dec, if_pos ⟨rfl, hc⟩, dec, if_pos ⟨rfl, hc⟩, ih r (by simp only [List.length_cons] at hl; omega)]
            · rw [if_neg hc] at he; cases he
      · rw [dec_other b l h, enc_cons]
        cases hb : inB s b.toNat with
        | true => rw [enc1_in s b hb]; simp only [List.cons_append, List.nil_append]; rw [dec_hex, ih l (by omega)]
        | false => rw [enc1_out s b hb]; simp only [List.cons_append, List.nil_append]; rw [dec_other b _ h, ih l (by omega)]
/-- what is encoded has no byte of the set but the sign -/
theorem enc_mem (s : Nat) (l : List UInt8) (c : UInt8) (h : c ∈ enc s l) : c = 37 ∨ inB s c.toNat = false := by
  unfold enc at h
  obtain ⟨b, _, hc⟩ := List.mem_flatMap.1 h
  cases hb : inB s b.toNat with
  | true =>
    rw [enc1_in s b hb] at hc
    have hlt := b.toNat_lt
    simp only [List.mem_cons, List.not_mem_nil, or_false] at hc
    rcases hc with h | h | h
    · exact .inl h
    · right; subst h; exact in_alnum s _ (by rw [hexU_hex _ (by omega)]; omega)
    · right; subst h; exact in_alnum s _ (by rw [hexU_hex _ (by omega)]; omega)
  | false =>
    rw [enc1_out s b hb] at hc
    simp only [List.mem_cons, List.not_mem_nil, or_false] at hc
    subst hc; exact .inr hb
theorem enc_free (s : Nat) (l : List UInt8) (h : ∀ c ∈ l, inB s c.toNat = false) : enc s l = l := by
  induction l with
  | nil => rfl
  | cons b l ih => rw [enc_cons, enc1_out s b (h b (by simp)), ih (fun c hc => h c (List.mem_cons_of_mem _ hc))]; rfl
/-- by a set without the sign nothing more is encoded -/
theorem enc_enc (s : Nat) (h37 : inB s 37 = false) (l : List UInt8) : enc s (enc s l) = enc s l :=
  enc_free s _ fun c hc => by rcases enc_mem s l c hc with h | h; (subst h; exact h37); exact h
def cnt (s : Nat) (l : List UInt8) : Nat := (l.filter fun b => inB s b.toNat).length
theorem enc_length (s : Nat) (l : List UInt8) : (enc s l).length = l.length + 2 * cnt s l := by
  induction l with
  | nil => rfl
  | cons b l ih =>
    rw [enc_cons, List.length_append, ih]
    unfold cnt
    cases hb : inB s b.toNat with
    | true => rw [enc1_in s b hb]; simp [hb]; omega
    | false => rw [enc1_out s b hb]; simp [hb]; omega
theorem cnt_le (s : Nat) (l : List UInt8) : cnt s l ≤ l.length := List.length_filter_le _ _
theorem cnt_snoc (s : Nat) (l : List UInt8) (b : UInt8) : cnt s (l ++ [b]) = cnt s l + if inB s b.toNat then 1 else 0 := by
  unfold cnt
  rw [List.filter_append, List.length_append]
  cases hb : inB s b.toNat <;> simp [hb]
end Go.Proofs.YtikdncmgppckfaaDoor.M

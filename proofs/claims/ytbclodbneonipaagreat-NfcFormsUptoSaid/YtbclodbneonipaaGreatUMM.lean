/-
  Plain mathematics for package utf (no program is named here): bytes read as runes with replacement, piece by piece; runes written; there and back. No conditions.
-/
import Derived.Lib.RuneBytes
namespace Go.Proofs.YtbclodbneonipaaGreat.U
def lead (b : Nat) : Option (Nat × Nat × Nat × Nat) :=
  if b < 128 then some (0, b, 128, 191)
  else if b < 194 then none
  else if b < 224 then some (1, b - 192, 128, 191)
  else if b = 224 then some (2, 0, 160, 191)
  else if b = 237 then some (2, 13, 128, 159)
  else if b < 240 then some (2, b - 224, 128, 191)
  else if b = 240 then some (3, 0, 144, 191)
  else if b = 244 then some (3, 4, 128, 143)
  else if b < 244 then some (3, b - 240, 128, 191)
  else none
def RC : Nat := 65533
def cont : Nat → Nat → Nat → Nat → List UInt8 → Nat × Nat
  | 0, r, _, _, _ => (r, 0)
  | _ + 1, _, _, _, [] => (RC, 0)
  | l + 1, r, lo, hi, b :: t => if lo ≤ b.toNat ∧ b.toNat ≤ hi then ((cont l (64 * r + (b.toNat - 128)) 128 191 t).1, (cont l (64 * r + (b.toNat - 128)) 128 191 t).2 + 1) else (RC, 0)
def fst1 : List UInt8 → Nat × Nat
  | [] => (RC, 1)
  | b :: t => match lead b.toNat with
    | none => (RC, 1)
    | some (l, r, lo, hi) => ((cont l r lo hi t).1, (cont l r lo hi t).2 + 1)
theorem cont_in {l r lo hi : Nat} {b : UInt8} {t : List UInt8} (h : lo ≤ b.toNat ∧ b.toNat ≤ hi) : cont (l + 1) r lo hi (b :: t) = ((cont l (64 * r + (b.toNat - 128)) 128 191 t).1, (cont l (64 * r + (b.toNat - 128)) 128 191 t).2 + 1) := by
  rw [cont, if_pos h]
theorem cont_out {l r lo hi : Nat} {b : UInt8} {t : List UInt8} (h : ¬ (lo ≤ b.toNat ∧ b.toNat ≤ hi)) : cont (l + 1) r lo hi (b :: t) = (RC, 0) := by
  rw [cont, if_neg h]
theorem cont_nil {l r lo hi : Nat} : cont (l + 1) r lo hi [] = (RC, 0) := rfl
theorem cont_zero {r lo hi : Nat} {t : List UInt8} : cont 0 r lo hi t = (r, 0) := rfl
theorem cont_le : ∀ (l r lo hi : Nat) (t : List UInt8), (cont l r lo hi t).2 ≤ l ∧ (cont l r lo hi t).2 ≤ t.length
  | 0, _, _, _, _ => ⟨Nat.le_refl _, Nat.zero_le _⟩
  | _ + 1, _, _, _, [] => ⟨Nat.zero_le _, Nat.zero_le _⟩
  | l + 1, r, lo, hi, b :: t => by
    rw [cont]
    split
    · have := cont_le l (64 * r + (b.toNat - 128)) 128 191 t
      simp only [List.length_cons]; omega
    · exact ⟨Nat.zero_le _, Nat.zero_le _⟩
theorem lead_cases (b : Nat) : (b < 128 ∧ lead b = some (0, b, 128, 191)) ∨ lead b = none ∨ (194 ≤ b ∧ b < 224 ∧ lead b = some (1, b - 192, 128, 191)) ∨
    (∃ r lo hi, lead b = some (2, r, lo, hi) ∧ 128 ≤ lo ∧ hi ≤ 191 ∧ b = 224 + r ∧ r ≤ 15 ∧ (r = 0 → 160 ≤ lo) ∧ (r = 13 → hi ≤ 159)) ∨
    (∃ r lo hi, lead b = some (3, r, lo, hi) ∧ 128 ≤ lo ∧ hi ≤ 191 ∧ b = 240 + r ∧ r ≤ 4 ∧ (r = 0 → 144 ≤ lo) ∧ (r = 4 → hi ≤ 143)) := by
  unfold lead
  by_cases c1 : b < 128
  · exact .inl ⟨c1, if_pos c1⟩
  · rw [if_neg c1]
    by_cases c2 : b < 194
    · exact .inr (.inl (if_pos c2))
    · rw [if_neg c2]
      by_cases c3 : b < 224
      · rw [if_pos c3]; exact .inr (.inr (.inl ⟨by omega, c3, rfl⟩))
      · rw [if_neg c3]
        by_cases c4 : b = 224
        · rw [if_pos c4]; exact .inr (.inr (.inr (.inl ⟨0, 160, 191, rfl, by omega, by omega, by omega, by omega, by omega, by omega⟩)))
        · rw [if_neg c4]
          by_cases c5 : b = 237
          · rw [if_pos c5]; exact .inr (.inr (.inr (.inl ⟨13, 128, 159, rfl, by omega, by omega, by omega, by omega, by omega, by omega⟩)))
          · rw [if_neg c5]
            by_cases c6 : b < 240
            · rw [if_pos c6]; exact .inr (.inr (.inr (.inl ⟨b - 224, 128, 191, rfl, by omega, by omega, by omega, by omega, by omega, by omega⟩)))
            · rw [if_neg c6]
              by_cases c7 : b = 240
              · rw [if_pos c7]; exact .inr (.inr (.inr (.inr ⟨0, 144, 191, rfl, by omega, by omega, by omega, by omega, by omega, by omega⟩)))
              · rw [if_neg c7]
                by_cases c8 : b = 244
                · rw [if_pos c8]; exact .inr (.inr (.inr (.inr ⟨4, 128, 143, rfl, by omega, by omega, by omega, by omega, by omega, by omega⟩)))
                · rw [if_neg c8]
                  by_cases c9 : b < 244
                  · rw [if_pos c9]; exact .inr (.inr (.inr (.inr ⟨b - 240, 128, 191, rfl, by omega, by omega, by omega, by omega, by omega, by omega⟩)))
                  · rw [if_neg c9]; exact .inr (.inl rfl)
theorem lead_left {b l r lo hi : Nat} (h : lead b = some (l, r, lo, hi)) : l ≤ 3 := by
  rcases lead_cases b with ⟨_, e⟩ | e | ⟨_, _, e⟩ | ⟨r', lo', hi', e, _⟩ | ⟨r', lo', hi', e, _⟩ <;> rw [e] at h
  · simp only [Option.some.injEq, Prod.mk.injEq] at h; omega
  · cases h
  · simp only [Option.some.injEq, Prod.mk.injEq] at h; omega
  · simp only [Option.some.injEq, Prod.mk.injEq] at h; omega
  · simp only [Option.some.injEq, Prod.mk.injEq] at h; omega
theorem fst1_w (b : UInt8) (t : List UInt8) : 1 ≤ (fst1 (b :: t)).2 ∧ (fst1 (b :: t)).2 ≤ 4 ∧ (fst1 (b :: t)).2 ≤ t.length + 1 := by
  cases h : lead b.toNat with
  | none => simp only [fst1, h]; omega
  | some v =>
    obtain ⟨l, r, lo, hi⟩ := v
    have h1 := cont_le l r lo hi t
    have h2 := lead_left h
    simp only [fst1, h]; omega
def piecesF : Nat → List UInt8 → List (Nat × List UInt8)
  | 0, _ => []
  | _ + 1, [] => []
  | n + 1, b :: t => ((fst1 (b :: t)).1, (b :: t).take (fst1 (b :: t)).2) :: piecesF n ((b :: t).drop (fst1 (b :: t)).2)
def pieces (l : List UInt8) : List (Nat × List UInt8) := piecesF l.length l
theorem piecesF_eq : ∀ (n m : Nat) (l : List UInt8), l.length ≤ n → l.length ≤ m → piecesF n l = piecesF m l
  | 0, 0, _, _, _ => rfl
  | 0, m + 1, l, h, _ => by have : l = [] := List.eq_nil_of_length_eq_zero (by omega); subst this; rfl
  | n + 1, 0, l, _, h => by have : l = [] := List.eq_nil_of_length_eq_zero (by omega); subst this; rfl
  | n + 1, m + 1, [], _, _ => rfl
  | n + 1, m + 1, b :: t, h1, h2 => by
    have hw := fst1_w b t
    rw [piecesF, piecesF, piecesF_eq n m _ (by rw [List.length_drop]; simp only [List.length_cons] at h1 ⊢; omega) (by rw [List.length_drop]; simp only [List.length_cons] at h2 ⊢; omega)]
theorem pieces_nil : pieces [] = [] := rfl
theorem pieces_cons (b : UInt8) (t : List UInt8) : pieces (b :: t) = ((fst1 (b :: t)).1, (b :: t).take (fst1 (b :: t)).2) :: pieces ((b :: t).drop (fst1 (b :: t)).2) := by
  have hw := fst1_w b t
  unfold pieces
  rw [List.length_cons, piecesF, piecesF_eq t.length _ _ (by rw [List.length_drop]; simp only [List.length_cons]; omega) (Nat.le_refl _)]
def runes (l : List UInt8) : List Nat := (pieces l).map (·.1)
/-- runes that may be -/
def May (r : Int) : Prop := (0 ≤ r ∧ r < 55296) ∨ (57343 < r ∧ r ≤ 1114111)
instance (r : Int) : Decidable (May r) := by unfold May; infer_instance
def rep (r : Int) : Int := if May r then r else 65533
def encR (r : Int) : List UInt8 := Lib.encodeRune r
theorem encR1 {r : Int} (h0 : 0 ≤ r) (h1 : r ≤ 127) : encR r = [r.toNat.toUInt8] := by unfold encR Lib.encodeRune; rw [Lib.encodeRuneZ_one h0 h1]; rfl
theorem encR2 {r : Int} (h0 : 128 ≤ r) (h1 : r ≤ 2047) : encR r = [(192 + r / 64).toNat.toUInt8, (128 + r % 64).toNat.toUInt8] := by unfold encR Lib.encodeRune; rw [Lib.encodeRuneZ_two h0 h1]; rfl
theorem encR3 {r : Int} (h : (2048 ≤ r ∧ r < 55296) ∨ (57343 < r ∧ r ≤ 65535)) : encR r = [(224 + r / 4096).toNat.toUInt8, (128 + r / 64 % 64).toNat.toUInt8, (128 + r % 64).toNat.toUInt8] := by unfold encR Lib.encodeRune; rw [Lib.encodeRuneZ_three h]; rfl
theorem encR4 {r : Int} (h0 : 65536 ≤ r) (h1 : r ≤ 1114111) : encR r = [(240 + r / 262144).toNat.toUInt8, (128 + r / 4096 % 64).toNat.toUInt8, (128 + r / 64 % 64).toNat.toUInt8, (128 + r % 64).toNat.toUInt8] := by unfold encR Lib.encodeRune; rw [Lib.encodeRuneZ_four h0 h1]; rfl
theorem encR_bad {r : Int} (h : ¬ May r) : encR r = [239, 191, 189] := by
  unfold encR Lib.encodeRune
  rw [Lib.encodeRuneZ_bad (by unfold May at h; omega)]; rfl
theorem encR_rep (r : Int) : encR (rep r) = encR r := by
  unfold rep
  split
  · rfl
  · rename_i h; rw [encR_bad h]; rfl
theorem u8_eq {a : UInt8} {n : Nat} (h : n = a.toNat) : n.toUInt8 = a := by
  subst h; exact UInt8.ofNat_toNat
theorem u8_nat {n : Nat} (h : n < 256) : n.toUInt8.toNat = n := by
  show (UInt8.ofNat n).toNat = n
  rw [UInt8.toNat_ofNat', Nat.mod_eq_of_lt h]
theorem cont3 (b : UInt8) (t : List UInt8) (r lo hi : Nat) (hlo : 128 ≤ lo) (hhi : hi ≤ 191) (hbr : b.toNat = 224 + r) (hr : r ≤ 15) (hr0 : r = 0 → 160 ≤ lo) (hr13 : r = 13 → hi ≤ 159) :
    (May (cont 2 r lo hi t).1 ∧ encR (cont 2 r lo hi t).1 = (b :: t).take ((cont 2 r lo hi t).2 + 1)) ∨ (cont 2 r lo hi t).1 = RC := by
  match t with
  | [] => right; rfl
  | [c] =>
    right
    by_cases d1 : lo ≤ c.toNat ∧ c.toNat ≤ hi
    · simp only [cont, if_pos d1]
    · simp only [cont, if_neg d1]
  | c :: d :: t =>
    have hc := c.toNat_lt
    have hd := d.toNat_lt
    by_cases d1 : lo ≤ c.toNat ∧ c.toNat ≤ hi
    · by_cases d2 : 128 ≤ d.toNat ∧ d.toNat ≤ 191
      · left
        rw [cont_in d1, cont_in d2, cont_zero]
        dsimp only
        refine ⟨by unfold May; omega, ?_⟩
        rw [encR3 (by omega)]
        simp only [List.take_succ_cons, List.take_zero]
        rw [u8_eq (a := b) (by omega), u8_eq (a := c) (by omega), u8_eq (a := d) (by omega)]
      · right; rw [cont_in d1, cont_out d2]
    · right; rw [cont_out d1]
theorem cont4 (b : UInt8) (t : List UInt8) (r lo hi : Nat) (hlo : 128 ≤ lo) (hhi : hi ≤ 191) (hbr : b.toNat = 240 + r) (hr : r ≤ 4) (hr0 : r = 0 → 144 ≤ lo) (hr4 : r = 4 → hi ≤ 143) :
    (May (cont 3 r lo hi t).1 ∧ encR (cont 3 r lo hi t).1 = (b :: t).take ((cont 3 r lo hi t).2 + 1)) ∨ (cont 3 r lo hi t).1 = RC := by
  match t with
  | [] => right; rfl
  | [c] =>
    right
    by_cases d1 : lo ≤ c.toNat ∧ c.toNat ≤ hi
    · simp only [cont, if_pos d1]
    · simp only [cont, if_neg d1]
  | [c, d] =>
    right
    by_cases d1 : lo ≤ c.toNat ∧ c.toNat ≤ hi
    · by_cases d2 : 128 ≤ d.toNat ∧ d.toNat ≤ 191
      · simp only [cont, if_pos d1, if_pos d2]
      · simp only [cont, if_pos d1, if_neg d2]
    · simp only [cont, if_neg d1]
  | c :: d :: e :: t =>
    have hc := c.toNat_lt
    have hd := d.toNat_lt
    have he := e.toNat_lt
    by_cases d1 : lo ≤ c.toNat ∧ c.toNat ≤ hi
    · by_cases d2 : 128 ≤ d.toNat ∧ d.toNat ≤ 191
      · by_cases d3 : 128 ≤ e.toNat ∧ e.toNat ≤ 191
        · left
          rw [cont_in d1, cont_in d2, cont_in d3, cont_zero]
          dsimp only
          refine ⟨by unfold May; omega, ?_⟩
          rw [encR4 (by omega) (by omega)]
          simp only [List.take_succ_cons, List.take_zero]
          rw [u8_eq (a := b) (by omega), u8_eq (a := c) (by omega), u8_eq (a := d) (by omega), u8_eq (a := e) (by omega)]
        · right; rw [cont_in d1, cont_in d2, cont_out d3]
      · right; rw [cont_in d1, cont_out d2]
    · right; rw [cont_out d1]
theorem cont2 (b : UInt8) (t : List UInt8) (h1 : 194 ≤ b.toNat) (h2 : b.toNat < 224) :
    (May (cont 1 (b.toNat - 192) 128 191 t).1 ∧ encR (cont 1 (b.toNat - 192) 128 191 t).1 = (b :: t).take ((cont 1 (b.toNat - 192) 128 191 t).2 + 1)) ∨ (cont 1 (b.toNat - 192) 128 191 t).1 = RC := by
  match t with
  | [] => right; rfl
  | c :: t =>
    have hc := c.toNat_lt
    by_cases d1 : 128 ≤ c.toNat ∧ c.toNat ≤ 191
    · left
      rw [cont_in d1, cont_zero]
      dsimp only
      refine ⟨by unfold May; omega, ?_⟩
      rw [encR2 (by omega) (by omega)]
      simp only [List.take_succ_cons, List.take_zero]
      rw [u8_eq (a := b) (by omega), u8_eq (a := c) (by omega)]
    · right; rw [cont_out d1]
/-- a piece is the UTF-8 of its rune, which may be, or it is replaced -/
theorem fst1_enc_or (b : UInt8) (t : List UInt8) : (May (fst1 (b :: t)).1 ∧ encR (fst1 (b :: t)).1 = (b :: t).take (fst1 (b :: t)).2) ∨ (fst1 (b :: t)).1 = RC := by
  have hb := b.toNat_lt
  rcases lead_cases b.toNat with ⟨c1, e⟩ | e | ⟨c1, c2, e⟩ | ⟨r', lo', hi', e, k1, k2, k3, k4, k5, k6⟩ | ⟨r', lo', hi', e, k1, k2, k3, k4, k5, k6⟩ <;> simp only [fst1, e]
  · left
    simp only [cont]
    refine ⟨by unfold May; omega, ?_⟩
    rw [encR1 (by omega) (by omega)]
    simp only [List.take_succ_cons, List.take_zero]
    rw [u8_eq (a := b) (by omega)]
  · right; trivial
  · exact cont2 b t c1 c2
  · exact cont3 b t _ _ _ k1 k2 k3 k4 k5 k6
  · exact cont4 b t _ _ _ k1 k2 k3 k4 k5 k6
end Go.Proofs.YtbclodbneonipaaGreat.U
namespace Go.Proofs.YtbclodbneonipaaGreat.U
theorem lead1 : ∀ b, b < 128 → lead b = some (0, b, 128, 191) := by decide +kernel
theorem lead2d : ∀ b, b < 224 → (decide (b < 194) || lead b == some (1, b - 192, 128, 191)) = true := by decide +kernel
theorem lead3d : ∀ b, b < 240 → (decide (b < 224) || lead b == some (2, b - 224, if b = 224 then 160 else 128, if b = 237 then 159 else 191)) = true := by decide +kernel
theorem lead4d : ∀ b, b < 245 → (decide (b < 240) || lead b == some (3, b - 240, if b = 240 then 144 else 128, if b = 244 then 143 else 191)) = true := by decide +kernel
theorem of_or {p q : Bool} (h : (p || q) = true) (hp : ¬ p = true) : q = true := by cases p <;> simp_all
theorem lead2 (b : Nat) (h1 : b < 224) (h2 : 194 ≤ b) : lead b = some (1, b - 192, 128, 191) := eq_of_beq (of_or (lead2d b h1) (by simp; omega))
theorem lead3 (b : Nat) (h1 : b < 240) (h2 : 224 ≤ b) : lead b = some (2, b - 224, if b = 224 then 160 else 128, if b = 237 then 159 else 191) := eq_of_beq (of_or (lead3d b h1) (by simp; omega))
theorem lead4 (b : Nat) (h1 : b < 245) (h2 : 240 ≤ b) : lead b = some (3, b - 240, if b = 240 then 144 else 128, if b = 244 then 143 else 191) := eq_of_beq (of_or (lead4d b h1) (by simp; omega))
theorem RC_eq : RC = 65533 := rfl
theorem fst1_of {b : UInt8} {t : List UInt8} {l r lo hi : Nat} (h : lead b.toNat = some (l, r, lo, hi)) : fst1 (b :: t) = ((cont l r lo hi t).1, (cont l r lo hi t).2 + 1) := by simp only [fst1, h]
theorem pair_eq {a b c d : Nat} (h1 : a = c) (h2 : b = d) : (a, b) = (c, d) := by rw [h1, h2]
theorem fst1_encR (r : Int) (t : List UInt8) : fst1 (encR r ++ t) = ((rep r).toNat, (encR r).length) := by
  have bad : fst1 ([239, 191, 189] ++ t) = (65533, 3) := by
    show fst1 ((239 : UInt8) :: (191 : UInt8) :: (189 : UInt8) :: t) = _
    rw [fst1_of (l := 2) (r := 15) (lo := 128) (hi := 191) (by decide), cont_in (by decide), cont_in (by decide), cont_zero]
    rfl
  by_cases hm : May r
  · have hr : rep r = r := if_pos hm
    rw [hr]
    unfold May at hm
    by_cases h1 : r ≤ 127
    · rw [encR1 (by omega) h1]
      have hx := u8_nat (n := r.toNat) (by omega)
      show fst1 (r.toNat.toUInt8 :: t) = _
      rw [fst1_of (lead1 _ (by omega)), cont_zero, hx]; rfl
    · by_cases h2 : r ≤ 2047
      · rw [encR2 (by omega) h2]
        have hx := u8_nat (n := (192 + r / 64).toNat) (by omega)
        have hy := u8_nat (n := (128 + r % 64).toNat) (by omega)
        show fst1 ((192 + r / 64).toNat.toUInt8 :: (128 + r % 64).toNat.toUInt8 :: t) = _
        rw [fst1_of (lead2 _ (by omega) (by omega)), cont_in (by omega), cont_zero, hx, hy]
        exact pair_eq (by dsimp only; omega) rfl
      · by_cases h3 : r ≤ 65535
        · rw [encR3 (by omega)]
          have hx := u8_nat (n := (224 + r / 4096).toNat) (by omega)
          have hy := u8_nat (n := (128 + r / 64 % 64).toNat) (by omega)
          have hz := u8_nat (n := (128 + r % 64).toNat) (by omega)
          show fst1 ((224 + r / 4096).toNat.toUInt8 :: (128 + r / 64 % 64).toNat.toUInt8 :: (128 + r % 64).toNat.toUInt8 :: t) = _
          rw [fst1_of (lead3 _ (by omega) (by omega)), cont_in (by constructor <;> split <;> omega), cont_in (by omega), cont_zero, hx, hy, hz]
          exact pair_eq (by dsimp only; omega) rfl
        · rw [encR4 (by omega) (by omega)]
          have hx := u8_nat (n := (240 + r / 262144).toNat) (by omega)
          have hy := u8_nat (n := (128 + r / 4096 % 64).toNat) (by omega)
          have hz := u8_nat (n := (128 + r / 64 % 64).toNat) (by omega)
          have hv := u8_nat (n := (128 + r % 64).toNat) (by omega)
          show fst1 ((240 + r / 262144).toNat.toUInt8 :: (128 + r / 4096 % 64).toNat.toUInt8 :: (128 + r / 64 % 64).toNat.toUInt8 :: (128 + r % 64).toNat.toUInt8 :: t) = _
          rw [fst1_of (lead4 _ (by omega) (by omega)), cont_in (by constructor <;> split <;> omega), cont_in (by omega), cont_in (by omega), cont_zero, hx, hy, hz, hv]
          exact pair_eq (by dsimp only; omega) rfl
  · rw [encR_bad hm, bad, show rep r = 65533 from if_neg hm]; rfl
theorem encR_ne (r : Int) : encR r ≠ [] := by
  intro h
  have := congrArg List.length h
  have h1 := Lib.runeCells_le r
  rw [Lib.runeCells_length] at h1
  unfold encR at this
  simp at this
  rw [this] at h1; simp at h1
theorem encR_len (r : Int) : 1 ≤ (encR r).length ∧ (encR r).length ≤ 4 := by
  have h1 := Lib.runeCells_le r
  rw [Lib.runeCells_length] at h1
  exact h1
def enc (l : List Int) : List UInt8 := l.flatMap encR
theorem enc_nil : enc [] = [] := rfl
theorem enc_cons (r : Int) (l : List Int) : enc (r :: l) = encR r ++ enc l := by simp [enc]
theorem enc_app (a b : List Int) : enc (a ++ b) = enc a ++ enc b := by simp [enc]
theorem enc_len (l : List Int) : (enc l).length ≤ 4 * l.length := by
  induction l with
  | nil => simp [enc]
  | cons r l ih => rw [enc_cons, List.length_append, List.length_cons]; have := encR_len r; omega
/-- what stands behind a rune's UTF-8 is read by itself -/
theorem pieces_encR (r : Int) (t : List UInt8) : pieces (encR r ++ t) = ((rep r).toNat, encR r) :: pieces t := by
  cases h : encR r with
  | nil => exact absurd h (encR_ne r)
  | cons b u =>
    rw [List.cons_append, pieces_cons, ← List.cons_append, ← h, fst1_encR]
    dsimp only
    rw [List.take_left, List.drop_left]
theorem pieces_enc (l : List Int) (t : List UInt8) : pieces (enc l ++ t) = l.map (fun r => ((rep r).toNat, encR r)) ++ pieces t := by
  induction l with
  | nil => rfl
  | cons r l ih => rw [enc_cons, List.append_assoc, pieces_encR, ih]; rfl
theorem runes_enc (l : List Int) (t : List UInt8) : runes (enc l ++ t) = l.map (fun r => (rep r).toNat) ++ runes t := by
  unfold runes; rw [pieces_enc, List.map_append, List.map_map]; rfl
/-- the runes of a text, as numbers -/
def runesZ (l : List UInt8) : List Int := (runes l).map (fun (n : Nat) => (n : Int))
theorem rep_nat (r : Int) : (((rep r).toNat : Nat) : Int) = rep r := by
  have : 0 ≤ rep r := by
    unfold rep
    split
    · rename_i h; unfold May at h; omega
    · omega
  omega
theorem runesZ_enc (l : List Int) (t : List UInt8) : runesZ (enc l ++ t) = l.map rep ++ runesZ t := by
  unfold runesZ; rw [runes_enc, List.map_append, List.map_map]
  congr 1
  exact List.map_congr_left fun r _ => rep_nat r
theorem runesZ_of_enc (l : List Int) : runesZ (enc l) = l.map rep := by
  have := runesZ_enc l []
  simpa [runesZ, runes, pieces_nil] using this
def scal (l : List UInt8) : List UInt8 := enc (runesZ l)
theorem scal_nil : scal [] = [] := rfl
theorem runesZ_cons (b : UInt8) (t : List UInt8) : runesZ (b :: t) = ((fst1 (b :: t)).1 : Int) :: runesZ ((b :: t).drop (fst1 (b :: t)).2) := by
  unfold runesZ runes; rw [pieces_cons]; rfl
theorem scal_cons (b : UInt8) (t : List UInt8) : scal (b :: t) = encR ((fst1 (b :: t)).1 : Int) ++ scal ((b :: t).drop (fst1 (b :: t)).2) := by
  unfold scal; rw [runesZ_cons, enc_cons]
/-- every piece is a rune's own UTF-8 -/
def goodP (p : Nat × List UInt8) : Bool := !(p.1 == RC && p.2 != [239, 191, 189])
def good (l : List UInt8) : Bool := (pieces l).all goodP
theorem may_rep {r : Int} (h : May r) : rep r = r := if_pos h
/-- all read runes may be -/
theorem fst1_may (b : UInt8) (t : List UInt8) : May ((fst1 (b :: t)).1 : Int) := by
  rcases fst1_enc_or b t with h | h
  · exact h.1
  · rw [h]; unfold May RC; omega
theorem good_step (b : UInt8) (t : List UInt8) : goodP ((fst1 (b :: t)).1, (b :: t).take (fst1 (b :: t)).2) = true ↔ encR ((fst1 (b :: t)).1 : Int) = (b :: t).take (fst1 (b :: t)).2 := by
  have hRC : encR ((RC : Nat) : Int) = [239, 191, 189] := by
    show encR 65533 = _
    rw [encR3 (by omega)]; decide
  constructor
  · intro hg
    rcases fst1_enc_or b t with h | h
    · exact h.2
    · unfold goodP at hg
      dsimp only at hg
      rw [h] at hg ⊢
      rw [hRC]
      have : ((RC == RC) = true) := by simp
      rw [this, Bool.true_and, Bool.not_eq_true', bne_eq_false_iff_eq] at hg
      exact hg.symm
  · intro he
    unfold goodP
    dsimp only
    by_cases h : (fst1 (b :: t)).1 = RC
    · rw [h] at he ⊢
      rw [hRC] at he
      rw [← he]; simp
    · have : ((fst1 (b :: t)).1 == RC) = false := by rw [beq_eq_false_iff_ne]; exact h
      rw [this]; rfl
theorem good_scal (n : Nat) : ∀ l : List UInt8, l.length ≤ n → (good l = true ↔ scal l = l) := by
  induction n with
  | zero => intro l hl; have : l = [] := List.eq_nil_of_length_eq_zero (by omega); subst this; exact ⟨fun _ => rfl, fun _ => rfl⟩
  | succ n ih =>
    intro l hl
    match l, hl with
    | [], _ => exact ⟨fun _ => rfl, fun _ => rfl⟩
    | b :: t, hl =>
      have hw := fst1_w b t
      have hi := ih ((b :: t).drop (fst1 (b :: t)).2) (by rw [List.length_drop]; simp only [List.length_cons] at hl ⊢; omega)
      have hg : good (b :: t) = (goodP ((fst1 (b :: t)).1, (b :: t).take (fst1 (b :: t)).2) && good ((b :: t).drop (fst1 (b :: t)).2)) := by
        unfold good; rw [pieces_cons, List.all_cons]
      rw [hg, Bool.and_eq_true, good_step, hi, scal_cons]
      constructor
      · rintro ⟨h1, h2⟩
        rw [h1, h2, List.take_append_drop]
      · intro h
        have h1 : encR ((fst1 (b :: t)).1 : Int) = (b :: t).take (fst1 (b :: t)).2 := by
          rcases fst1_enc_or b t with h' | h'
          · exact h'.2
          · have e : fst1 (b :: t) = fst1 (encR ((fst1 (b :: t)).1 : Int) ++ scal ((b :: t).drop (fst1 (b :: t)).2)) := by rw [h]
            rw [fst1_encR] at e
            have e2 : (fst1 (b :: t)).2 = (encR ((fst1 (b :: t)).1 : Int)).length := congrArg Prod.snd e
            have h3 := congrArg (List.take (fst1 (b :: t)).2) h
            rw [e2, List.take_left] at h3
            rw [← e2] at h3
            exact h3
        refine ⟨h1, ?_⟩
        have h4 := h
        rw [h1] at h4
        conv at h4 => rhs; rw [← List.take_append_drop (fst1 (b :: t)).2 (b :: t)]
        exact List.append_cancel_left h4
theorem good_iff (l : List UInt8) : good l = true ↔ scal l = l := good_scal l.length l (Nat.le_refl _)
theorem runes_may_aux (n : Nat) : ∀ l : List UInt8, l.length ≤ n → ∀ r ∈ runesZ l, May r := by
  induction n with
  | zero => intro l hl; have : l = [] := List.eq_nil_of_length_eq_zero (by omega); subst this; intro r hr; cases hr
  | succ n ih =>
    intro l hl
    match l, hl with
    | [], _ => intro r hr; cases hr
    | b :: t, hl =>
      have hw := fst1_w b t
      intro r hr
      rw [runesZ_cons] at hr
      rcases List.mem_cons.1 hr with h | h
      · rw [h]; exact fst1_may b t
      · exact ih _ (by rw [List.length_drop]; simp only [List.length_cons] at hl ⊢; omega) r h
theorem runes_may (l : List UInt8) : ∀ r ∈ runesZ l, May r := runes_may_aux l.length l (Nat.le_refl _)
theorem map_rep (l : List Int) (h : ∀ r ∈ l, May r) : l.map rep = l := by
  induction l with
  | nil => rfl
  | cons r l ih => rw [List.map_cons, may_rep (h r (by simp)), ih (fun x hx => h x (List.mem_cons_of_mem _ hx))]
theorem runesZ_scal (l : List UInt8) : runesZ (scal l) = runesZ l := by unfold scal; rw [runesZ_of_enc, map_rep _ (runes_may l)]
theorem scal_scal (l : List UInt8) : scal (scal l) = scal l := by
  show enc (runesZ (scal l)) = enc (runesZ l)
  rw [runesZ_scal]
theorem scal_enc (l : List Int) : scal (enc l) = enc l := by
  unfold scal; rw [runesZ_of_enc]
  induction l with
  | nil => rfl
  | cons r l ih => rw [List.map_cons, enc_cons, enc_cons, encR_rep, ih]
theorem good_enc (l : List Int) : good (enc l) = true := (good_iff _).2 (scal_enc l)
theorem good_scal_of (l : List UInt8) : good (scal l) = true := (good_iff _).2 (scal_scal l)
/-- how many runes -/
theorem runes_count_aux (n : Nat) : ∀ l : List UInt8, l.length ≤ n → (runesZ l).length ≤ l.length ∧ l.length ≤ 4 * (runesZ l).length := by
  induction n with
  | zero => intro l hl; have : l = [] := List.eq_nil_of_length_eq_zero (by omega); subst this; exact ⟨Nat.le_refl _, Nat.le_refl _⟩
  | succ n ih =>
    intro l hl
    match l, hl with
    | [], _ => exact ⟨Nat.le_refl _, Nat.le_refl _⟩
    | b :: t, hl =>
      have hw := fst1_w b t
      have hi := ih ((b :: t).drop (fst1 (b :: t)).2) (by rw [List.length_drop]; simp only [List.length_cons] at hl ⊢; omega)
      rw [List.length_drop] at hi
      rw [runesZ_cons, List.length_cons]
      simp only [List.length_cons] at hi ⊢
      omega
theorem runes_count (l : List UInt8) : (runesZ l).length ≤ l.length ∧ l.length ≤ 4 * (runesZ l).length := runes_count_aux l.length l (Nat.le_refl _)
/-- a text of ASCII is read byte by byte -/
theorem runes_ascii (l : List UInt8) (h : ∀ c ∈ l, c.toNat < 128) : runesZ l = l.map (fun c => (c.toNat : Int)) := by
  induction l with
  | nil => rfl
  | cons b t ih =>
    have hb := h b (by simp)
    have e : fst1 (b :: t) = (b.toNat, 1) := by rw [fst1_of (lead1 _ hb), cont_zero]
    rw [runesZ_cons, e, List.map_cons]
    exact congrArg (List.cons (b.toNat : Int)) (ih fun c hc => h c (List.mem_cons_of_mem _ hc))
end Go.Proofs.YtbclodbneonipaaGreat.U

import Derived.RowKit
/-
  Plain mathematics for package pct (no program is named here): the sets of bytes, percent-encoding, percent-decoding, and the case of ASCII letters, as functions on lists of bytes, with the facts about them that the walks and the laws use. No conditions.
-/
namespace Go.Proofs.YtikdncmgppckfaaDoor.M

/-! ### Sets -/
def hasB (l : List Nat) (b : Nat) : Bool := l.contains b
def inB (s b : Nat) : Bool :=
  if s = 0 ∨ 9 ≤ s then false else
  if b < 32 ∨ 126 < b then true else
  match s with
  | 1 => false
  | 2 => hasB [32, 34, 60, 62, 96] b
  | 3 => hasB [32, 34, 35, 60, 62] b
  | 4 => hasB [32, 34, 35, 60, 62] b || b == 39
  | 5 => hasB [32, 34, 35, 60, 62] b || hasB [63, 94, 96, 123, 125] b
  | 6 => hasB [32, 34, 35, 60, 62] b || hasB [63, 94, 96, 123, 125] b || hasB [47, 58, 59, 61, 64, 91, 92, 93, 124] b
  | 7 => hasB [32, 34, 35, 60, 62] b || hasB [63, 94, 96, 123, 125] b || hasB [47, 58, 59, 61, 64, 91, 92, 93, 124] b || hasB [36, 37, 38, 43, 44] b
  | _ => hasB [32, 34, 35, 60, 62] b || hasB [63, 94, 96, 123, 125] b || hasB [47, 58, 59, 61, 64, 91, 92, 93, 124] b || hasB [36, 37, 38, 43, 44] b || hasB [33, 39, 40, 41, 126] b

abbrev Marks := Nat × Nat × Nat × Nat
def sb (m : Marks) (v : Nat) : Marks :=
  if v / 64 = 0 then (m.1 ||| 2 ^ (v % 64), m.2.1, m.2.2.1, m.2.2.2)
  else if v / 64 = 1 then (m.1, m.2.1 ||| 2 ^ (v % 64), m.2.2.1, m.2.2.2)
  else if v / 64 = 2 then (m.1, m.2.1, m.2.2.1 ||| 2 ^ (v % 64), m.2.2.2)
  else (m.1, m.2.1, m.2.2.1, m.2.2.2 ||| 2 ^ (v % 64))
def okM (m : Marks) : Prop := m.1 < 2 ^ 64 ∧ m.2.1 < 2 ^ 64 ∧ m.2.2.1 < 2 ^ 64 ∧ m.2.2.2 < 2 ^ 64
theorem or_lt (a v : Nat) (h : a < 2 ^ 64) : a ||| 2 ^ (v % 64) < 2 ^ 64 :=
  Nat.or_lt_two_pow h (Nat.pow_lt_pow_right (by omega) (Nat.mod_lt _ (by omega)))
theorem sb_ok (m : Marks) (v : Nat) (h : okM m) : okM (sb m v) := by
  obtain ⟨h0, h1, h2, h3⟩ := h
  unfold sb
  split
  · exact ⟨or_lt _ _ h0, h1, h2, h3⟩
  · split
    · exact ⟨h0, or_lt _ _ h1, h2, h3⟩
    · split
      · exact ⟨h0, h1, or_lt _ _ h2, h3⟩
      · exact ⟨h0, h1, h2, or_lt _ _ h3⟩
theorem fold_ok (l : List Nat) (m : Marks) (h : okM m) : okM (l.foldl sb m) := by
  induction l generalizing m with
  | nil => exact h
  | cons v l ih => exact ih _ (sb_ok m v h)
def mk (s : Nat) : Marks :=
  match s with
  | 1 => (4294967295, 9223372036854775808, 18446744073709551615, 18446744073709551615)
  | 2 => [32, 34, 60, 62, 96].foldl sb (mk 1)
  | 3 => [32, 34, 35, 60, 62].foldl sb (mk 1)
  | 4 => [39].foldl sb (mk 3)
  | 5 => [63, 94, 96, 123, 125].foldl sb (mk 3)
  | 6 => [47, 58, 59, 61, 64, 91, 92, 93, 124].foldl sb (mk 5)
  | 7 => [36, 37, 38, 43, 44].foldl sb (mk 6)
  | 8 => [33, 39, 40, 41, 126].foldl sb (mk 7)
  | _ => (0, 0, 0, 0)
def bitAt (m : Marks) (b : Nat) : Bool :=
  ([m.1, m.2.1, m.2.2.1, m.2.2.2].getD (b / 64) 0) / 2 ^ (b % 64) % 2 == 1
theorem bit_in_small : ∀ s, s < 9 → ∀ b, b < 256 → bitAt (mk s) b = inB s b := by decide +kernel
theorem mk_big (s : Nat) (h : 9 ≤ s) : mk s = (0, 0, 0, 0) := by
  unfold mk; split <;> first | omega | rfl
theorem bit_in (s b : Nat) (hb : b < 256) : bitAt (mk s) b = inB s b := by
  by_cases h : s < 9
  · exact bit_in_small s h b hb
  · rw [mk_big s (by omega)]
    have : inB s b = false := by unfold inB; rw [if_pos (Or.inr (by omega))]
    rw [this]
    unfold bitAt
    have h4 : b / 64 = 0 ∨ b / 64 = 1 ∨ b / 64 = 2 ∨ b / 64 = 3 := by omega
    rcases h4 with h | h | h | h <;> rw [h] <;> simp
theorem mk_ok (s : Nat) : okM (mk s) := by
  by_cases h : s < 9
  · have : ∀ s, s < 9 → (mk s).1 < 2 ^ 64 ∧ (mk s).2.1 < 2 ^ 64 ∧ (mk s).2.2.1 < 2 ^ 64 ∧ (mk s).2.2.2 < 2 ^ 64 := by decide +kernel
    exact this s h
  · rw [mk_big s (by omega)]; exact ⟨by decide, by decide, by decide, by decide⟩

/-! ### Encoding -/
def hexU (n : Nat) : UInt8 := if n < 10 then UInt8.ofNat (48 + n) else UInt8.ofNat (55 + n)
def enc1 (s : Nat) (b : UInt8) : List UInt8 := if inB s b.toNat then [37, hexU (b.toNat / 16), hexU (b.toNat % 16)] else [b]
def enc (s : Nat) (l : List UInt8) : List UInt8 := l.flatMap (enc1 s)

/-! ### Decoding -/
def hexv (n : Nat) : Nat := if 48 ≤ n ∧ n ≤ 57 then n - 48 else if 97 ≤ n ∧ n ≤ 102 then n - 87 else if 65 ≤ n ∧ n ≤ 70 then n - 55 else 16
def dec : List UInt8 → List UInt8
  | [] => []
  | c :: rest => match rest with
    | [] => [c]
    | [d] => c :: dec [d]
    | h :: l :: r => if c = 37 ∧ hexv h.toNat < 16 ∧ hexv l.toNat < 16 then UInt8.ofNat (hexv h.toNat * 16 + hexv l.toNat) :: dec r else c :: dec (h :: l :: r)

def escL : List UInt8 → Option UInt8
  | c :: h :: l :: _ => if c = 37 ∧ hexv h.toNat < 16 ∧ hexv l.toNat < 16 then some (UInt8.ofNat (hexv h.toNat * 16 + hexv l.toNat)) else none
  | _ => none
theorem dec_some {l : List UInt8} {v : UInt8} (h : escL l = some v) : 3 ≤ l.length ∧ dec l = v :: dec (l.drop 3) := by
  match l, h with
  | c :: h1 :: l1 :: r, h =>
    simp only [escL] at h
    by_cases hc : c = 37 ∧ hexv h1.toNat < 16 ∧ hexv l1.toNat < 16
    · rw [if_pos hc] at h
      cases h
      refine ⟨by simp, ?_⟩
      rw [dec, if_pos hc]; rfl
    · rw [if_neg hc] at h; cases h
theorem dec_none {c : UInt8} {r : List UInt8} (h : escL (c :: r) = none) : dec (c :: r) = c :: dec r := by
  match r, h with
  | [], _ => rfl
  | [d], _ => rfl
  | h1 :: l1 :: r, h =>
    simp only [escL] at h
    by_cases hc : c = 37 ∧ hexv h1.toNat < 16 ∧ hexv l1.toNat < 16
    · rw [if_pos hc] at h; cases h
    · rw [dec, if_neg hc]
theorem dec_nil : dec [] = [] := rfl
theorem hexv_le (n : Nat) : hexv n ≤ 16 := by unfold hexv; split <;> (try split) <;> (try split) <;> omega

/-! ### Case -/
def low (b : UInt8) : UInt8 := if 65 ≤ b.toNat ∧ b.toNat ≤ 90 then UInt8.ofNat (b.toNat + 32) else b
def upp (b : UInt8) : UInt8 := if 97 ≤ b.toNat ∧ b.toNat ≤ 122 then UInt8.ofNat (b.toNat - 32) else b
end Go.Proofs.YtikdncmgppckfaaDoor.M
